/- Texts that belong together, one behind the other: BpI, PadA. Conditions: those of each. -/
import Derived.Test.YthjfeanmgaidcaaBpH
import Derived.Test.YthjfeanmgaidcaaMg11
import Derived.Test.YthjfeanmgaidcaaMg8
import Derived.Test.YthjfeanmgaidcaaMg2
/- Package bpdu: what Get tells, by the bytes. Plain. -/
namespace Go.Proofs.Ythjfeanmgaidcaa
open Go.RowKit Go.Sort
set_option linter.unusedVariables false

theorem seg_is (b : List UInt8) (k n : Nat) : numM ((b.drop k).take n) = sgB b k (k + n) := by
  unfold sgB
  rw [List.drop_take, Nat.add_sub_cancel_left]
theorem four_split (b : List UInt8) (h : 4 ≤ b.length) : numM (b.take 4) = ((sgB b 0 1 * 256 + sgB b 1 2) * 256 + sgB b 2 3) * 256 + sgB b 3 4 := by
  match b, h with
  | x0 :: x1 :: x2 :: x3 :: r, _ => simp [numM, sgB]
theorem take_ok0 (b : List UInt8) (n : Nat) (h : n ≤ b.length) : takeM ⟨b, 0, 0⟩ (n : Int) = (b.take n, ⟨b, n, 0⟩) := by
  have := takeM_ok b 0 n (by omega)
  simpa using this
theorem fail_err (s : Cst) (h : s.er ≠ 0) (x : Int) : failM s x = s := by unfold failM; rw [if_neg h]
theorem fn_err (m : Bp) (s : Cst) (h : s.er = 4 ∨ s.er = 5) : fnM m s = (Bp.zero, s.er) := by
  have h0 : s.er ≠ 0 := by omega
  have ht : (takeM s 1).2 = s := by
    obtain ⟨l, k, er⟩ := s
    rw [takeM_err l k er h0]
  unfold fnM
  simp only [ht, fail_err s h0]
  by_cases hk : m.kd = 3
  · simp [hk, h0, fail_err s h0 5]
  · simp [hk, h0, fail_err s h0 5]
theorem st_err (s : Cst) (h : s.er ≠ 0) : st9 s = s := by
  obtain ⟨l, k, er⟩ := s
  have e : ∀ x, (takeM ⟨l, k, er⟩ x).2 = ⟨l, k, er⟩ := fun x => by rw [takeM_err l k er h]
  simp only [st9, st8, st7, st6, st5, st4, st3, st2, st1, e]
theorem Took.nine {b : List UInt8} {s : Cst} (h : Took b 4 s) : Took b 35 (st9 s) :=
  ((((((((h.next 1).next 8).next 4).next 8).next 2).next 2).next 2).next 2).next 2
theorem takes_ok (b : List UInt8) (k : Int) (h : 35 ≤ b.length) : tfM k ⟨b, 4, 0⟩ = rdB k b ∧ st9 ⟨b, 4, 0⟩ = ⟨b, 35, 0⟩ := by
  have t1 : takeM ⟨b, 4, 0⟩ 1 = ((b.drop 4).take 1, ⟨b, 5, 0⟩) := takeM_ok b 4 1 (by omega)
  have t2 : takeM ⟨b, 5, 0⟩ 8 = ((b.drop 5).take 8, ⟨b, 13, 0⟩) := takeM_ok b 5 8 (by omega)
  have t3 : takeM ⟨b, 13, 0⟩ 4 = ((b.drop 13).take 4, ⟨b, 17, 0⟩) := takeM_ok b 13 4 (by omega)
  have t4 : takeM ⟨b, 17, 0⟩ 8 = ((b.drop 17).take 8, ⟨b, 25, 0⟩) := takeM_ok b 17 8 (by omega)
  have t5 : takeM ⟨b, 25, 0⟩ 2 = ((b.drop 25).take 2, ⟨b, 27, 0⟩) := takeM_ok b 25 2 (by omega)
  have t6 : takeM ⟨b, 27, 0⟩ 2 = ((b.drop 27).take 2, ⟨b, 29, 0⟩) := takeM_ok b 27 2 (by omega)
  have t7 : takeM ⟨b, 29, 0⟩ 2 = ((b.drop 29).take 2, ⟨b, 31, 0⟩) := takeM_ok b 29 2 (by omega)
  have t8 : takeM ⟨b, 31, 0⟩ 2 = ((b.drop 31).take 2, ⟨b, 33, 0⟩) := takeM_ok b 31 2 (by omega)
  have t9 : takeM ⟨b, 33, 0⟩ 2 = ((b.drop 33).take 2, ⟨b, 35, 0⟩) := takeM_ok b 33 2 (by omega)
  have s1 : st1 ⟨b, 4, 0⟩ = ⟨b, 5, 0⟩ := by unfold st1; rw [t1]
  have s2 : st2 ⟨b, 4, 0⟩ = ⟨b, 13, 0⟩ := by unfold st2; rw [s1, t2]
  have s3 : st3 ⟨b, 4, 0⟩ = ⟨b, 17, 0⟩ := by unfold st3; rw [s2, t3]
  have s4 : st4 ⟨b, 4, 0⟩ = ⟨b, 25, 0⟩ := by unfold st4; rw [s3, t4]
  have s5 : st5 ⟨b, 4, 0⟩ = ⟨b, 27, 0⟩ := by unfold st5; rw [s4, t5]
  have s6 : st6 ⟨b, 4, 0⟩ = ⟨b, 29, 0⟩ := by unfold st6; rw [s5, t6]
  have s7 : st7 ⟨b, 4, 0⟩ = ⟨b, 31, 0⟩ := by unfold st7; rw [s6, t7]
  have s8 : st8 ⟨b, 4, 0⟩ = ⟨b, 33, 0⟩ := by unfold st8; rw [s7, t8]
  refine ⟨?_, by unfold st9; rw [s8, t9]⟩
  unfold tfM rdB
  rw [s1, s2, s3, s4, s5, s6, s7, s8, t1, t2, t3, t4, t5, t6, t7, t8, t9]
  simp only [seg_is, Nat.reduceAdd]
theorem fn_full (k : Int) (hk : k = 1 ∨ k = 3) (b : List UInt8) (s : Cst) (hT : Took b 4 s) (he : b.length < 35 ∨ s = ⟨b, 4, 0⟩) : fnM (tfM k s) (st9 s) = finB k (if k = 3 then 36 else 35) b := by
  by_cases h35 : b.length < 35
  · have := hT.nine.done h35
    rw [fn_err _ _ (.inl this), this]
    unfold finB
    rw [if_pos (by split <;> omega)]
  · have hs : s = ⟨b, 4, 0⟩ := by rcases he with h | h; exact absurd h h35; exact h
    subst hs
    obtain ⟨e1, e2⟩ := takes_ok b k (by omega)
    rw [e1, e2]
    have hkd : (rdB k b).kd = k := rfl
    have hmay : mayB (rdB k b) = decide ((rdB k b).ag < (rdB k b).ma) := by unfold mayB; rw [if_pos (by rw [hkd]; exact hk)]
    unfold finB
    rcases hk with rfl | rfl
    · rw [if_neg (show ¬ b.length < (if (1 : Int) = 3 then 36 else 35) from h35)]
      by_cases hag : (rdB 1 b).ma ≤ (rdB 1 b).ag
      · rw [if_pos (.inl hag), fnM_a _ _ (by rw [hkd]; decide) (by rw [hmay]; simp; omega)]
        rfl
      · rw [if_neg (by rintro (h | ⟨h, _⟩); exact hag h; exact absurd h (by decide)), fnM_b _ _ (by rw [hkd]; decide) (by rw [hmay]; simp; omega)]
        rfl
    · rw [if_pos (show (3 : Int) = 3 from rfl)]
      by_cases h36 : b.length < 36
      · have hl : b.length = 35 := by omega
        have ht : takeM ⟨b, 35, 0⟩ 1 = ([], ⟨b, 35, 4⟩) := takeM_short b 35 1 (by omega) (by omega)
        rw [if_pos h36]
        have hn : numM (takeM ⟨b, 35, 0⟩ 1).1 = 0 := by rw [ht]; rfl
        cases hm : mayB (rdB 3 b)
        · rw [fnM_3b _ _ hkd hn hm, ht]; rfl
        · rw [fnM_3c _ _ hkd hn hm, ht]; rfl
      · rw [if_neg h36]
        have ht : takeM ⟨b, 35, 0⟩ 1 = ((b.drop 35).take 1, ⟨b, 36, 0⟩) := takeM_ok b 35 1 (by omega)
        have hn : numM (takeM ⟨b, 35, 0⟩ 1).1 = sgB b 35 36 := by rw [ht]; exact seg_is b 35 1
        by_cases h0 : sgB b 35 36 = 0
        · by_cases hag : (rdB 3 b).ma ≤ (rdB 3 b).ag
          · rw [if_pos (.inl hag), fnM_3b _ _ hkd (by rw [hn, h0]) (by rw [hmay]; simp; omega), ht]; rfl
          · rw [if_neg (by rintro (h | ⟨_, h⟩); exact hag h; exact h h0), fnM_3c _ _ hkd (by rw [hn, h0]) (by rw [hmay]; simp; omega), ht]; rfl
        · rw [if_pos (.inr ⟨rfl, h0⟩), fnM_3a _ _ hkd (by rw [hn]; exact h0), ht]; rfl
theorem sg_byte (b : List UInt8) (k : Nat) : sgB b k (k + 1) < 256 := sg_lt b k (k + 1) 1 (by omega)
theorem gp_get (b : List UInt8) : gpM b = getB b := by
  unfold gpM getB
  by_cases h4 : b.length < 4
  · have ht : takeM ⟨b, 0, 0⟩ 4 = ([], ⟨b, 0, 4⟩) := takeM_short b 0 4 (by omega) (by omega)
    have e : tkM ⟨b, 0, 0⟩ = (1, ⟨b, 0, 4⟩) := by unfold tkM; rw [ht]; rfl
    rw [if_pos h4, e]
    dsimp only
    rw [if_neg (by decide), st_err _ (show (4 : Int) ≠ 0 by decide), fn_err _ _ (.inl rfl)]
  · rw [if_neg h4]
    have ht : takeM ⟨b, 0, 0⟩ 4 = (b.take 4, ⟨b, 4, 0⟩) := take_ok0 b 4 (by omega)
    have hn := four_split b (by omega)
    have e : tkM ⟨b, 0, 0⟩ = (kinB (numM (b.take 4)), if kinB (numM (b.take 4)) = 0 then ⟨b, 4, 5⟩ else ⟨b, 4, 0⟩) := by unfold tkM; rw [ht]; rfl
    have l0 : sgB b 0 1 < 256 := sg_byte b 0
    have l1 : sgB b 1 2 < 256 := sg_byte b 1
    have l2 : sgB b 2 3 < 256 := sg_byte b 2
    have l3 : sgB b 3 4 < 256 := sg_byte b 3
    rw [e, hn]
    have hT : Took b 4 ⟨b, 4, 0⟩ := ⟨rfl, .inr ⟨rfl, rfl, by omega⟩⟩
    by_cases h01 : sgB b 0 1 ≠ 0 ∨ sgB b 1 2 ≠ 0
    · have hk : kinB (((sgB b 0 1 * 256 + sgB b 1 2) * 256 + sgB b 2 3) * 256 + sgB b 3 4) = 0 := by
        unfold kinB; rw [if_neg (by omega), if_neg (by omega), if_neg (by omega)]
      rw [if_pos h01, hk]
      dsimp only
      rw [if_neg (by decide), if_pos rfl, st_err _ (show (5 : Int) ≠ 0 by decide), fn_err _ _ (.inr rfl)]
    · rw [if_neg h01]
      by_cases hc : sgB b 2 3 = 0 ∧ sgB b 3 4 = 128
      · have hk : kinB (((sgB b 0 1 * 256 + sgB b 1 2) * 256 + sgB b 2 3) * 256 + sgB b 3 4) = 2 := by
          unfold kinB; rw [if_neg (by omega), if_pos (by omega)]
        rw [if_pos hc, hk]
        dsimp only
        rw [if_pos rfl, if_neg (by decide), fnM_b _ _ (by decide) (by decide)]
        rfl
      · rw [if_neg hc]
        by_cases hz : sgB b 2 3 = 0 ∧ sgB b 3 4 = 0
        · have hk : kinB (((sgB b 0 1 * 256 + sgB b 1 2) * 256 + sgB b 2 3) * 256 + sgB b 3 4) = 1 := by
            unfold kinB; rw [if_pos (by omega)]
          rw [if_pos hz, hk]
          dsimp only
          rw [if_neg (by decide), if_neg (by decide)]
          exact fn_full 1 (.inl rfl) b _ hT (.inr rfl)
        · rw [if_neg hz]
          by_cases hr : sgB b 2 3 = 2 ∧ sgB b 3 4 = 2
          · have hk : kinB (((sgB b 0 1 * 256 + sgB b 1 2) * 256 + sgB b 2 3) * 256 + sgB b 3 4) = 3 := by
              unfold kinB; rw [if_neg (by omega), if_neg (by omega), if_pos (by omega)]
            rw [if_pos hr, hk]
            dsimp only
            rw [if_neg (by decide), if_neg (by decide)]
            exact fn_full 3 (.inr rfl) b _ hT (.inr rfl)
          · have hk : kinB (((sgB b 0 1 * 256 + sgB b 1 2) * 256 + sgB b 2 3) * 256 + sgB b 3 4) = 0 := by
              unfold kinB; rw [if_neg (by omega), if_neg (by omega), if_neg (by omega)]
            rw [if_neg hr, hk]
            dsimp only
            rw [if_neg (by decide), if_pos rfl, st_err _ (show (5 : Int) ≠ 0 by decide), fn_err _ _ (.inr rfl)]
end Go.Proofs.Ythjfeanmgaidcaa
/- Contracts of package cut's pad: laying numbers. -/
namespace Go.Proofs.Ythjfeanmgaidcaa
open Go.RowKit
set_option linter.unusedVariables false

/-- A pad: its block, and bytes of its own. -/
structure Padd (w : World) (B g : Nat) (v : Value) (l : List UInt8) : Prop where
  blo : Blo w g 104 #[.bool true, v]
  own : w.ownsRow B 5 1 v l.length (bys l)
  ge : B ≤ g
/-- Where a pad lies. -/
def foot (g : Nat) (v : Value) : Nat → Prop := fun k => k = g ∨ v.ownBlock = some k
/-- The new row is the old one, or lies in a block that was made since. -/
def Newer (n : Nat) (v v' : Value) : Prop := ∀ k, v'.ownBlock = some k → v.ownBlock = some k ∨ n ≤ k

section
variable {w w' : World} {B g : Nat} {v : Value} {l : List UInt8}
theorem Padd.c0 (h : Padd w B g v l) : w.cell? ⟨g, 0, none⟩ = some (.bool true) := h.blo.cell 0
theorem Padd.c1 (h : Padd w B g v l) : w.cell? ⟨g, 1, none⟩ = some v := h.blo.cell 1
theorem Padd.own_ne (h : Padd w B g v l) : v.ownBlock ≠ some g := by
  intro e
  rcases h.own.2 with ⟨rfl, _⟩ | ⟨g', cap, cur, rfl, _, hg, _⟩
  · simp [Value.ownBlock] at e
  · have : g' = g := by simpa [Value.ownBlock] using e
    subst this
    exact (Blo.ne (show Blo w g' 5 cur from hg) h.blo (by decide)) rfl
theorem Padd.kept {F : Nat → Prop} (h : Padd w B g v l) (k : Kept F w w') (hF : ∀ i, foot g v i → ¬ F i) : Padd w' B g v l :=
  ⟨h.blo.kept k (hF g (.inl rfl)), own_kept h.own k (fun i hi => hF i (.inr hi)), h.ge⟩
theorem Padd.heap (h : Padd w B g v l) (e : w'.heap = w.heap) : Padd w' B g v l := ⟨h.blo.heap e, by have := h.own; unfold World.ownsRow at this ⊢; rw [e]; exact this, h.ge⟩
theorem Padd.foot_ge (h : Padd w B g v l) : ∀ k, foot g v k → B ≤ k := by
  rintro k (rfl | hk)
  · exact h.ge
  · exact (h.own.lt k hk).1
theorem Newer.refl (n : Nat) (v : Value) : Newer n v v := fun _ h => .inl h
theorem Newer.trans {n n' : Nat} {v v' v'' : Value} (h : Newer n v v') (k : Newer n' v' v'') (hn : n ≤ n') : Newer n v v'' := fun i hi => by
  rcases k i hi with h1 | h1
  · exact h i h1
  · exact .inr (by omega)
end

theorem foot_newer {n g : Nat} {v v' : Value} (h : Newer n v v') : ∀ i, i < n → foot g v' i → foot g v i := by
  rintro i hi (rfl | hf)
  · exact .inl rfl
  · rcases h i hf with h1 | h1
    · exact .inr h1
    · omega

theorem pnone_yes (g : Nat) (w : World) (h : w.cell? ⟨g, 0, none⟩ = some (.bool true)) :
    Calls Try.prog 57 #[.pointer (some ⟨g, 0, none⟩)] w fun e w' => e = .returned (.bool false) ∧ w = w' := by
  go_enter Try.func57, Try.ntmps57
  go_wp2
  go_ret
  exact ⟨rfl, rfl⟩

/-- One byte more: what an append and the store behind it leave. -/
theorem pad_step {w W w3 : World} {B g : Nat} {v v3 : Value} {L : List UInt8} {z : Int} {b : UInt8} {t : TypeId} (h : Padd w B g v L) (hW : ∃ q, W = (w.alloc (.cells #[.int .u8 z] t)).drewN q) (hz : z = (b.toNat : Int))
    (ho : w3.ownsRow B 5 1 v3 (L.length + 1) (bys L ++ [.int .u8 z])) (hg : W.grownBy w3 v.ownBlock) (hn : v3.ownBlock = v.ownBlock ∨ v3.ownBlock = some W.heap.size) :
    (w3.cell? ⟨g, 1, none⟩ = some v ∧ w3.frozen? ⟨g, 1, none⟩ = false) ∧
    Hid (Padd (w3.setCell ⟨g, 1, none⟩ v3) B g v3 (L ++ [b]) ∧ Kept (foot g v) w (w3.setCell ⟨g, 1, none⟩ v3) ∧ Newer w.heap.size v v3) := by
  obtain ⟨q, rfl⟩ := hW
  subst hz
  have K1 : Kept (foot g v) w w3 := (((Kept.refl (foot g v) w).alloc _).drewN q).grown hg (fun k hk _ => .inr hk)
  have K1' : Kept (fun k => v.ownBlock = some k) w w3 := (((Kept.refl (fun k => v.ownBlock = some k) w).alloc _).drewN q).grown hg (fun k hk _ => hk)
  have hB3 : Blo w3 g 104 #[.bool true, v] := h.blo.kept K1' (fun hf => h.own_ne hf)
  have hne : v3.ownBlock ≠ some g := by
    intro e
    rcases ho.2 with ⟨rfl, _⟩ | ⟨g', cap, cur, rfl, _, hg', _⟩
    · simp [Value.ownBlock] at e
    · have : g' = g := by simpa [Value.ownBlock] using e
      subst this
      exact (Blo.ne (show Blo w3 g' 5 cur from hg') hB3 (by decide)) rfl
  refine ⟨⟨hB3.cell 1, hB3.frozen 1⟩, ⟨by have := hB3.set 1 v3; simpa using this, ?_, h.ge⟩, K1.put (.inl rfl) _, ?_⟩
  · have := own_kept ho (Kept.one w3 g 1 none v3) (fun i hi hi' => hne (by cases hi'; exact hi))
    rw [bys_app, List.length_append]
    exact this
  · intro k hk
    rcases hn with e | e
    · exact .inl (e ▸ hk)
    · right
      rw [e] at hk
      injection hk with hk
      have : (((w.alloc (.cells #[.int .u8 (b.toNat : Int)] t)).drewN q)).heap.size = w.heap.size + 1 := by simp [World.drewN]
      omega

theorem beM_take (W x j : Nat) (h : j < W) : (beM W x).take (j + 1) = (beM W x).take j ++ [UInt8.ofNat (x / 2 ^ (8 * (W - 1 - j)))] := by
  rw [List.take_succ_eq_append_getElem (by rw [beM_len]; exact h)]
  simp [beM]
theorem lay_len (l : List UInt8) (W : Nat) (xs : List Nat) (k j n : Nat) (hk : k < xs.length) (hn : xs.length = n) (hj : j ≤ W) (hbd : l.length + n * W ≤ 1099511627776) :
    (l ++ beAll W (xs.take k) ++ (beM W xs[k]).take j).length ≤ 1099511627776 := by
  have h1 : (k + 1) * W ≤ n * W := Nat.mul_le_mul_right _ (by omega)
  have h2 : (xs.take k).length = k := by simp; omega
  simp only [List.length_append, beAll_len, List.length_take, beM_len, Nat.add_mul] at *
  rw [Nat.min_eq_left (by omega : k ≤ xs.length)]
  omega

theorem byte_s0 (x : Nat) (hx : x < 18446744073709551616) : IntKind.u8.wrap (IntKind.u64.wrap (x : Int)) = ((UInt8.ofNat (x / 2 ^ 0)).toNat : Int) := by
  rw [IntWalk.u64_in _ (by omega), IntKind.wrap_u8, UInt8.toNat_ofNat']; simp only [Nat.reducePow]; omega
theorem byte_s8 (x : Nat) (hx : x < 18446744073709551616) : IntKind.u8.wrap (IntKind.u64.wrap (x : Int) / 256) = ((UInt8.ofNat (x / 2 ^ 8)).toNat : Int) := by
  rw [IntWalk.u64_in _ (by omega), IntKind.wrap_u8, UInt8.toNat_ofNat']; simp only [Nat.reducePow]; omega
theorem byte_s16 (x : Nat) (hx : x < 18446744073709551616) : IntKind.u8.wrap (IntKind.u64.wrap (x : Int) / 65536) = ((UInt8.ofNat (x / 2 ^ 16)).toNat : Int) := by
  rw [IntWalk.u64_in _ (by omega), IntKind.wrap_u8, UInt8.toNat_ofNat']; simp only [Nat.reducePow]; omega
theorem byte_s24 (x : Nat) (hx : x < 18446744073709551616) : IntKind.u8.wrap (IntKind.u64.wrap (x : Int) / 16777216) = ((UInt8.ofNat (x / 2 ^ 24)).toNat : Int) := by
  rw [IntWalk.u64_in _ (by omega), IntKind.wrap_u8, UInt8.toNat_ofNat']; simp only [Nat.reducePow]; omega

set_option maxHeartbeats 1000000 in
theorem lay8 (B g : Nat) (v : Value) (l : List UInt8) (A : Option Addr) (n c : Nat) (xs : List Nat) (w : World) (h : Padd w B g v l) (hs : Nums .u8 w A n c xs) (hB : B ≤ w.heap.size)
    (hap : ∀ i, Lies A n i → ¬ foot g v i) (hbd : l.length + n * 1 ≤ 1099511627776) (hx : ∀ x ∈ xs, x < 256 ^ 1) :
    Calls Try.prog 54 #[.pointer (some ⟨g, 0, none⟩), .int .i64 1, .slice A n c] w fun e w' =>
      ∃ v', e = .returned (.pointer (some ⟨g, 0, none⟩)) ∧ Padd w' B g v' (l ++ beAll 1 xs) ∧ Kept (foot g v) w w' ∧ Newer w.heap.size v v' := by
  have hnc := hs.2.1
  have hcc := hs.2.2.1
  have h0 := h.c0
  go_enter Try.func54, Try.ntmps54
  go_wp2_with (go_at_call 57; refine (pnone_yes g _ h0).mono ?_; rintro e w' ⟨rfl, rfl⟩)
  go_loopw [15] (fun i wr => ∃ (k : Nat) (v' : Value), k ≤ n ∧ i = .int .i64 k ∧ Padd wr B g v' (l ++ beAll 1 (xs.take k)) ∧ Kept (foot g v) w wr ∧ Newer w.heap.size v v') (fun i _ => n - (intOf i).toNat)
  case atStart => exact ⟨0, v, Nat.zero_le _, rfl, by simpa [beAll] using h, Kept.refl _ _, Newer.refl _ _⟩
  case round =>
    obtain ⟨k, v', hk, rfl, hp, hkp, hnw⟩ := hrel
    by_cases hlt : k < n
    · have hkl : k < xs.length := by rw [hs.1]; exact hlt
      obtain ⟨b, o, rfl, hce⟩ := (hs.kept hkp hap).at hkl
      have HP := Lib.hid hp
      have HK := Lib.hid hkp
      have HN := Lib.hid hnw
      have hxk : xs[k] < 256 ^ 1 := hx _ (List.getElem_mem hkl)
      have hxk' : xs[k] < 18446744073709551616 := Nat.lt_of_lt_of_le hxk (by decide)
      have HX := Lib.hid hxk
      clear hp hkp hnw hxk
      go_wp2
      obtain ⟨wo, rfl⟩ : ∃ wo : World, wo = wr := ⟨_, rfl⟩
      go_loopw [9] (fun sh wr => ∃ (j : Nat) (v' : Value) (z : Int), j ≤ 1 ∧ z = 8 * (1 - 1 : Int) - 8 * j ∧ sh = .int .i64 z ∧ Padd wr B g v' (l ++ beAll 1 (xs.take k) ++ (beM 1 xs[k]).take j) ∧ Kept (foot g v) w wr ∧ Newer w.heap.size v v') (fun sh _ => (intOf sh + 8).toNat)
      case atStart => exact ⟨0, v', 8 * (1 - 1), by omega, by omega, by go_num, by simpa using HP.out, HK.out, HN.out⟩
      case round =>
        obtain ⟨j, v2, z, hj, hz, rfl, hp, hkp, hnw⟩ := hrel
        by_cases hjl : j < 1
        · have hLl := lay_len l 1 xs k j n hkl hs.1 hj hbd
          have hLn := beM_take 1 xs[k] j hjl
          obtain ⟨L, hL⟩ : ∃ L, L = l ++ beAll 1 (xs.take k) ++ (beM 1 xs[k]).take j := ⟨_, rfl⟩
          rw [← hL] at hp hLl
          obtain ⟨bb, hbb⟩ : ∃ bb, bb = UInt8.ofNat (xs[k] / 2 ^ (8 * (1 - 1 - j))) := ⟨_, rfl⟩
          rw [← hbb] at hLn
          have HL := Lib.hid hL
          have HLn := Lib.hid hLn
          have HBB := Lib.hid hbb
          have q1 := hp.c1
          have q2 := hp.blo.frozen 1
          have hgl : g < wr.heap.size := hp.blo.lt
          have hga := fun o => World.cell?_alloc_lt wr o ⟨g, 1, none⟩ hgl
          rw [q1] at hga
          have hsz : B ≤ wr.heap.size := Nat.le_trans hB hkp.size
          obtain ⟨i0, hi, hz0, hz1, hz2⟩ := info_parts Try.infb
          have HP2 := Lib.hid hp
          have HK2 := Lib.hid hkp
          have HN2 := Lib.hid hnw
          clear hp hkp hnw hL hLn hbb
          rcases (show z = 0 ∨ z = 8 ∨ z = 16 ∨ z = 24 by omega) with rfl | rfl | rfl | rfl
          all_goals first | (exfalso; omega) | skip
          all_goals
            have HZ := Lib.hid hz
            clear hz
            go_wp2
            go_region_law (refine step_own rfl (.tmp 30) (.tmp 36) 31 rfl B 5 i0 (.int .u8 0) 1 1 Try.underlying31 hi hz0 hz1 hz2 rfl (by decide) v2 _ _ rfl (by exact HP2.out.own.alloc _) ⟨_, 0, none⟩ 1 1 [_] rfl rfl (cell_one_new _ _ _) (by intro u hu; simp at hu; subst hu; rfl) (by unfold maxLen; omega) (by omega) (by simp; omega) ?_; intro v3 w3 ho3 hg3 hn3; obtain ⟨A3, c3, rfl⟩ := own_form ho3; obtain ⟨⟨s1, s2⟩, HQ⟩ := pad_step (b := bb) HP2.out ⟨1, rfl⟩ (by rw [HBB.out]; first | (rw [show 8 * (1 - 1 - j) = 0 from by have := HZ.out; omega]; exact byte_s0 _ hxk') | (rw [show 8 * (1 - 1 - j) = 8 from by have := HZ.out; omega]; exact byte_s8 _ hxk') | (rw [show 8 * (1 - 1 - j) = 16 from by have := HZ.out; omega]; exact byte_s16 _ hxk') | (rw [show 8 * (1 - 1 - j) = 24 from by have := HZ.out; omega]; exact byte_s24 _ hxk')) ho3 hg3 hn3; clear ho3 hg3 hn3)
            all_goals
              go_wp2
              go_roundw
              case rel => exact ⟨j + 1, _, _, by omega, by have := HZ.out; omega, rfl, by rw [HLn.out, ← List.append_assoc, ← HL.out]; exact HQ.out.1, HK2.out.trans HQ.out.2.1 (foot_newer HN2.out), HN2.out.trans HQ.out.2.2 HK2.out.size⟩
              case measure => simp [intOf]
        · have hfull : (beM 1 xs[k]).take j = beM 1 xs[k] := List.take_of_length_le (by rw [beM_len]; omega)
          rw [hfull, List.append_assoc, ← beAll_snoc 1 xs k hkl] at hp
          have HP2 := Lib.hid hp
          have HK2 := Lib.hid hkp
          have HN2 := Lib.hid hnw
          clear hp hkp hnw hfull
          have hz2 : z < 0 := by omega
          have HZ := Lib.hid hz
          clear hz
          go_wp2
          go_roundw
          case rel => exact ⟨k + 1, _, by omega, by go_num, HP2.out, HK2.out, HN2.out⟩
          case measure => simp [intOf]; omega
    · have hfull : xs.take k = xs := List.take_of_length_le (by rw [hs.1]; omega)
      rw [hfull] at hp
      have HP2 := Lib.hid hp
      have HK2 := Lib.hid hkp
      have HN2 := Lib.hid hnw
      clear hp hkp hnw hfull
      go_wp2
      go_ret
      exact ⟨_, rfl, HP2.out, HK2.out, HN2.out⟩
set_option maxHeartbeats 1000000 in
theorem lay16 (B g : Nat) (v : Value) (l : List UInt8) (A : Option Addr) (n c : Nat) (xs : List Nat) (w : World) (h : Padd w B g v l) (hs : Nums .u16 w A n c xs) (hB : B ≤ w.heap.size)
    (hap : ∀ i, Lies A n i → ¬ foot g v i) (hbd : l.length + n * 2 ≤ 1099511627776) (hx : ∀ x ∈ xs, x < 256 ^ 2) :
    Calls Try.prog 56 #[.pointer (some ⟨g, 0, none⟩), .int .i64 2, .slice A n c] w fun e w' =>
      ∃ v', e = .returned (.pointer (some ⟨g, 0, none⟩)) ∧ Padd w' B g v' (l ++ beAll 2 xs) ∧ Kept (foot g v) w w' ∧ Newer w.heap.size v v' := by
  have hnc := hs.2.1
  have hcc := hs.2.2.1
  have h0 := h.c0
  go_enter Try.func56, Try.ntmps56
  go_wp2_with (go_at_call 57; refine (pnone_yes g _ h0).mono ?_; rintro e w' ⟨rfl, rfl⟩)
  go_loopw [15] (fun i wr => ∃ (k : Nat) (v' : Value), k ≤ n ∧ i = .int .i64 k ∧ Padd wr B g v' (l ++ beAll 2 (xs.take k)) ∧ Kept (foot g v) w wr ∧ Newer w.heap.size v v') (fun i _ => n - (intOf i).toNat)
  case atStart => exact ⟨0, v, Nat.zero_le _, rfl, by simpa [beAll] using h, Kept.refl _ _, Newer.refl _ _⟩
  case round =>
    obtain ⟨k, v', hk, rfl, hp, hkp, hnw⟩ := hrel
    by_cases hlt : k < n
    · have hkl : k < xs.length := by rw [hs.1]; exact hlt
      obtain ⟨b, o, rfl, hce⟩ := (hs.kept hkp hap).at hkl
      have HP := Lib.hid hp
      have HK := Lib.hid hkp
      have HN := Lib.hid hnw
      have hxk : xs[k] < 256 ^ 2 := hx _ (List.getElem_mem hkl)
      have hxk' : xs[k] < 18446744073709551616 := Nat.lt_of_lt_of_le hxk (by decide)
      have HX := Lib.hid hxk
      clear hp hkp hnw hxk
      go_wp2
      obtain ⟨wo, rfl⟩ : ∃ wo : World, wo = wr := ⟨_, rfl⟩
      go_loopw [9] (fun sh wr => ∃ (j : Nat) (v' : Value) (z : Int), j ≤ 2 ∧ z = 8 * (2 - 1 : Int) - 8 * j ∧ sh = .int .i64 z ∧ Padd wr B g v' (l ++ beAll 2 (xs.take k) ++ (beM 2 xs[k]).take j) ∧ Kept (foot g v) w wr ∧ Newer w.heap.size v v') (fun sh _ => (intOf sh + 8).toNat)
      case atStart => exact ⟨0, v', 8 * (2 - 1), by omega, by omega, by go_num, by simpa using HP.out, HK.out, HN.out⟩
      case round =>
        obtain ⟨j, v2, z, hj, hz, rfl, hp, hkp, hnw⟩ := hrel
        by_cases hjl : j < 2
        · have hLl := lay_len l 2 xs k j n hkl hs.1 hj hbd
          have hLn := beM_take 2 xs[k] j hjl
          obtain ⟨L, hL⟩ : ∃ L, L = l ++ beAll 2 (xs.take k) ++ (beM 2 xs[k]).take j := ⟨_, rfl⟩
          rw [← hL] at hp hLl
          obtain ⟨bb, hbb⟩ : ∃ bb, bb = UInt8.ofNat (xs[k] / 2 ^ (8 * (2 - 1 - j))) := ⟨_, rfl⟩
          rw [← hbb] at hLn
          have HL := Lib.hid hL
          have HLn := Lib.hid hLn
          have HBB := Lib.hid hbb
          have q1 := hp.c1
          have q2 := hp.blo.frozen 1
          have hgl : g < wr.heap.size := hp.blo.lt
          have hga := fun o => World.cell?_alloc_lt wr o ⟨g, 1, none⟩ hgl
          rw [q1] at hga
          have hsz : B ≤ wr.heap.size := Nat.le_trans hB hkp.size
          obtain ⟨i0, hi, hz0, hz1, hz2⟩ := info_parts Try.infb
          have HP2 := Lib.hid hp
          have HK2 := Lib.hid hkp
          have HN2 := Lib.hid hnw
          clear hp hkp hnw hL hLn hbb
          rcases (show z = 0 ∨ z = 8 ∨ z = 16 ∨ z = 24 by omega) with rfl | rfl | rfl | rfl
          all_goals first | (exfalso; omega) | skip
          all_goals
            have HZ := Lib.hid hz
            clear hz
            go_wp2
            go_region_law (refine step_own rfl (.tmp 30) (.tmp 36) 31 rfl B 5 i0 (.int .u8 0) 1 1 Try.underlying31 hi hz0 hz1 hz2 rfl (by decide) v2 _ _ rfl (by exact HP2.out.own.alloc _) ⟨_, 0, none⟩ 1 1 [_] rfl rfl (cell_one_new _ _ _) (by intro u hu; simp at hu; subst hu; rfl) (by unfold maxLen; omega) (by omega) (by simp; omega) ?_; intro v3 w3 ho3 hg3 hn3; obtain ⟨A3, c3, rfl⟩ := own_form ho3; obtain ⟨⟨s1, s2⟩, HQ⟩ := pad_step (b := bb) HP2.out ⟨1, rfl⟩ (by rw [HBB.out]; first | (rw [show 8 * (2 - 1 - j) = 0 from by have := HZ.out; omega]; exact byte_s0 _ hxk') | (rw [show 8 * (2 - 1 - j) = 8 from by have := HZ.out; omega]; exact byte_s8 _ hxk') | (rw [show 8 * (2 - 1 - j) = 16 from by have := HZ.out; omega]; exact byte_s16 _ hxk') | (rw [show 8 * (2 - 1 - j) = 24 from by have := HZ.out; omega]; exact byte_s24 _ hxk')) ho3 hg3 hn3; clear ho3 hg3 hn3)
            all_goals
              go_wp2
              go_roundw
              case rel => exact ⟨j + 1, _, _, by omega, by have := HZ.out; omega, rfl, by rw [HLn.out, ← List.append_assoc, ← HL.out]; exact HQ.out.1, HK2.out.trans HQ.out.2.1 (foot_newer HN2.out), HN2.out.trans HQ.out.2.2 HK2.out.size⟩
              case measure => simp [intOf]
        · have hfull : (beM 2 xs[k]).take j = beM 2 xs[k] := List.take_of_length_le (by rw [beM_len]; omega)
          rw [hfull, List.append_assoc, ← beAll_snoc 2 xs k hkl] at hp
          have HP2 := Lib.hid hp
          have HK2 := Lib.hid hkp
          have HN2 := Lib.hid hnw
          clear hp hkp hnw hfull
          have hz2 : z < 0 := by omega
          have HZ := Lib.hid hz
          clear hz
          go_wp2
          go_roundw
          case rel => exact ⟨k + 1, _, by omega, by go_num, HP2.out, HK2.out, HN2.out⟩
          case measure => simp [intOf]; omega
    · have hfull : xs.take k = xs := List.take_of_length_le (by rw [hs.1]; omega)
      rw [hfull] at hp
      have HP2 := Lib.hid hp
      have HK2 := Lib.hid hkp
      have HN2 := Lib.hid hnw
      clear hp hkp hnw hfull
      go_wp2
      go_ret
      exact ⟨_, rfl, HP2.out, HK2.out, HN2.out⟩
set_option maxHeartbeats 1000000 in
theorem lay32 (B g : Nat) (v : Value) (l : List UInt8) (A : Option Addr) (n c : Nat) (xs : List Nat) (w : World) (h : Padd w B g v l) (hs : Nums .u32 w A n c xs) (hB : B ≤ w.heap.size)
    (hap : ∀ i, Lies A n i → ¬ foot g v i) (hbd : l.length + n * 4 ≤ 1099511627776) (hx : ∀ x ∈ xs, x < 256 ^ 4) :
    Calls Try.prog 55 #[.pointer (some ⟨g, 0, none⟩), .int .i64 4, .slice A n c] w fun e w' =>
      ∃ v', e = .returned (.pointer (some ⟨g, 0, none⟩)) ∧ Padd w' B g v' (l ++ beAll 4 xs) ∧ Kept (foot g v) w w' ∧ Newer w.heap.size v v' := by
  have hnc := hs.2.1
  have hcc := hs.2.2.1
  have h0 := h.c0
  go_enter Try.func55, Try.ntmps55
  go_wp2_with (go_at_call 57; refine (pnone_yes g _ h0).mono ?_; rintro e w' ⟨rfl, rfl⟩)
  go_loopw [15] (fun i wr => ∃ (k : Nat) (v' : Value), k ≤ n ∧ i = .int .i64 k ∧ Padd wr B g v' (l ++ beAll 4 (xs.take k)) ∧ Kept (foot g v) w wr ∧ Newer w.heap.size v v') (fun i _ => n - (intOf i).toNat)
  case atStart => exact ⟨0, v, Nat.zero_le _, rfl, by simpa [beAll] using h, Kept.refl _ _, Newer.refl _ _⟩
  case round =>
    obtain ⟨k, v', hk, rfl, hp, hkp, hnw⟩ := hrel
    by_cases hlt : k < n
    · have hkl : k < xs.length := by rw [hs.1]; exact hlt
      obtain ⟨b, o, rfl, hce⟩ := (hs.kept hkp hap).at hkl
      have HP := Lib.hid hp
      have HK := Lib.hid hkp
      have HN := Lib.hid hnw
      have hxk : xs[k] < 256 ^ 4 := hx _ (List.getElem_mem hkl)
      have hxk' : xs[k] < 18446744073709551616 := Nat.lt_of_lt_of_le hxk (by decide)
      have HX := Lib.hid hxk
      clear hp hkp hnw hxk
      go_wp2
      obtain ⟨wo, rfl⟩ : ∃ wo : World, wo = wr := ⟨_, rfl⟩
      go_loopw [9] (fun sh wr => ∃ (j : Nat) (v' : Value) (z : Int), j ≤ 4 ∧ z = 8 * (4 - 1 : Int) - 8 * j ∧ sh = .int .i64 z ∧ Padd wr B g v' (l ++ beAll 4 (xs.take k) ++ (beM 4 xs[k]).take j) ∧ Kept (foot g v) w wr ∧ Newer w.heap.size v v') (fun sh _ => (intOf sh + 8).toNat)
      case atStart => exact ⟨0, v', 8 * (4 - 1), by omega, by omega, by go_num, by simpa using HP.out, HK.out, HN.out⟩
      case round =>
        obtain ⟨j, v2, z, hj, hz, rfl, hp, hkp, hnw⟩ := hrel
        by_cases hjl : j < 4
        · have hLl := lay_len l 4 xs k j n hkl hs.1 hj hbd
          have hLn := beM_take 4 xs[k] j hjl
          obtain ⟨L, hL⟩ : ∃ L, L = l ++ beAll 4 (xs.take k) ++ (beM 4 xs[k]).take j := ⟨_, rfl⟩
          rw [← hL] at hp hLl
          obtain ⟨bb, hbb⟩ : ∃ bb, bb = UInt8.ofNat (xs[k] / 2 ^ (8 * (4 - 1 - j))) := ⟨_, rfl⟩
          rw [← hbb] at hLn
          have HL := Lib.hid hL
          have HLn := Lib.hid hLn
          have HBB := Lib.hid hbb
          have q1 := hp.c1
          have q2 := hp.blo.frozen 1
          have hgl : g < wr.heap.size := hp.blo.lt
          have hga := fun o => World.cell?_alloc_lt wr o ⟨g, 1, none⟩ hgl
          rw [q1] at hga
          have hsz : B ≤ wr.heap.size := Nat.le_trans hB hkp.size
          obtain ⟨i0, hi, hz0, hz1, hz2⟩ := info_parts Try.infb
          have HP2 := Lib.hid hp
          have HK2 := Lib.hid hkp
          have HN2 := Lib.hid hnw
          clear hp hkp hnw hL hLn hbb
          rcases (show z = 0 ∨ z = 8 ∨ z = 16 ∨ z = 24 by omega) with rfl | rfl | rfl | rfl
          all_goals first | (exfalso; omega) | skip
          all_goals
            have HZ := Lib.hid hz
            clear hz
            go_wp2
            go_region_law (refine step_own rfl (.tmp 30) (.tmp 36) 31 rfl B 5 i0 (.int .u8 0) 1 1 Try.underlying31 hi hz0 hz1 hz2 rfl (by decide) v2 _ _ rfl (by exact HP2.out.own.alloc _) ⟨_, 0, none⟩ 1 1 [_] rfl rfl (cell_one_new _ _ _) (by intro u hu; simp at hu; subst hu; rfl) (by unfold maxLen; omega) (by omega) (by simp; omega) ?_; intro v3 w3 ho3 hg3 hn3; obtain ⟨A3, c3, rfl⟩ := own_form ho3; obtain ⟨⟨s1, s2⟩, HQ⟩ := pad_step (b := bb) HP2.out ⟨1, rfl⟩ (by rw [HBB.out]; first | (rw [show 8 * (4 - 1 - j) = 0 from by have := HZ.out; omega]; exact byte_s0 _ hxk') | (rw [show 8 * (4 - 1 - j) = 8 from by have := HZ.out; omega]; exact byte_s8 _ hxk') | (rw [show 8 * (4 - 1 - j) = 16 from by have := HZ.out; omega]; exact byte_s16 _ hxk') | (rw [show 8 * (4 - 1 - j) = 24 from by have := HZ.out; omega]; exact byte_s24 _ hxk')) ho3 hg3 hn3; clear ho3 hg3 hn3)
            all_goals
              go_wp2
              go_roundw
              case rel => exact ⟨j + 1, _, _, by omega, by have := HZ.out; omega, rfl, by rw [HLn.out, ← List.append_assoc, ← HL.out]; exact HQ.out.1, HK2.out.trans HQ.out.2.1 (foot_newer HN2.out), HN2.out.trans HQ.out.2.2 HK2.out.size⟩
              case measure => simp [intOf]
        · have hfull : (beM 4 xs[k]).take j = beM 4 xs[k] := List.take_of_length_le (by rw [beM_len]; omega)
          rw [hfull, List.append_assoc, ← beAll_snoc 4 xs k hkl] at hp
          have HP2 := Lib.hid hp
          have HK2 := Lib.hid hkp
          have HN2 := Lib.hid hnw
          clear hp hkp hnw hfull
          have hz2 : z < 0 := by omega
          have HZ := Lib.hid hz
          clear hz
          go_wp2
          go_roundw
          case rel => exact ⟨k + 1, _, by omega, by go_num, HP2.out, HK2.out, HN2.out⟩
          case measure => simp [intOf]; omega
    · have hfull : xs.take k = xs := List.take_of_length_le (by rw [hs.1]; omega)
      rw [hfull] at hp
      have HP2 := Lib.hid hp
      have HK2 := Lib.hid hkp
      have HN2 := Lib.hid hnw
      clear hp hkp hnw hfull
      go_wp2
      go_ret
      exact ⟨_, rfl, HP2.out, HK2.out, HN2.out⟩
end Go.Proofs.Ythjfeanmgaidcaa
