/- Texts that belong together, one behind the other: PadA, PadB. Conditions: those of each. -/
import Derived.Test.YtbkjobmjapbmpaaMg8
import Derived.Test.YtbkjobmjapbmpaaMg2
/- Contracts of package cut's pad: laying numbers. -/
namespace Go.Proofs.Ytbkjobmjapbmpaa
open Go.RowKit
set_option linter.unusedVariables false

/-- A pad: its block, and bytes of its own. -/
structure Padd (w : World) (B g : Nat) (v : Value) (l : List UInt8) : Prop where
  blo : Blo w g 136 #[.bool true, v]
  own : w.ownsRow B 5 1 v l.length (bys l)
  ge : B ≤ g
/-- Where a pad lies. -/
def foot (g : Nat) (v : Value) : Nat → Prop := fun k => k = g ∨ v.ownBlock = some k
/-- The new row is the old one, or lies in a block that was made since. -/
def Newer (n : Nat) (v v' : Value) : Prop := ∀ k, v'.ownBlock = some k → v.ownBlock = some k ∨ n ≤ k

section
variable {w w' : World} {B g : Nat} {v : Value} {l : List UInt8}
theorem Padd.c0 (h : Padd w B g v l) : w.cell? ⟨g, 0, none⟩ = some (.bool true) := h.blo.cell 0
theorem Padd.c1 (h : Padd w B g v l) : w.cell? ⟨g, 1, none⟩ = some v := h.blo.cell 1
theorem Padd.own_ne (h : Padd w B g v l) : v.ownBlock ≠ some g := by
  intro e
  rcases h.own.2 with ⟨rfl, _⟩ | ⟨g', cap, cur, rfl, _, hg, _⟩
  · simp [Value.ownBlock] at e
  · have : g' = g := by simpa [Value.ownBlock] using e
    subst this
    exact (Blo.ne (show Blo w g' 5 cur from hg) h.blo (by decide)) rfl
theorem Padd.kept {F : Nat → Prop} (h : Padd w B g v l) (k : Kept F w w') (hF : ∀ i, foot g v i → ¬ F i) : Padd w' B g v l :=
  ⟨h.blo.kept k (hF g (.inl rfl)), own_kept h.own k (fun i hi => hF i (.inr hi)), h.ge⟩
theorem Padd.heap (h : Padd w B g v l) (e : w'.heap = w.heap) : Padd w' B g v l := ⟨h.blo.heap e, by have := h.own; unfold World.ownsRow at this ⊢; rw [e]; exact this, h.ge⟩
theorem Padd.foot_ge (h : Padd w B g v l) : ∀ k, foot g v k → B ≤ k := by
  rintro k (rfl | hk)
  · exact h.ge
  · exact (h.own.lt k hk).1
theorem Newer.refl (n : Nat) (v : Value) : Newer n v v := fun _ h => .inl h
theorem Newer.trans {n n' : Nat} {v v' v'' : Value} (h : Newer n v v') (k : Newer n' v' v'') (hn : n ≤ n') : Newer n v v'' := fun i hi => by
  rcases k i hi with h1 | h1
  · exact h i h1
  · exact .inr (by omega)
end

theorem foot_newer {n g : Nat} {v v' : Value} (h : Newer n v v') : ∀ i, i < n → foot g v' i → foot g v i := by
  rintro i hi (rfl | hf)
  · exact .inl rfl
  · rcases h i hf with h1 | h1
    · exact .inr h1
    · omega

theorem pnone_yes (g : Nat) (w : World) (h : w.cell? ⟨g, 0, none⟩ = some (.bool true)) :
    Calls Try.prog 80 #[.pointer (some ⟨g, 0, none⟩)] w fun e w' => e = .returned (.bool false) ∧ w = w' := by
  go_enter Try.func80, Try.ntmps80
  go_wp2
  go_ret
  exact ⟨rfl, rfl⟩

/-- One byte more: what an append and the store behind it leave. -/
theorem pad_step {w W w3 : World} {B g : Nat} {v v3 : Value} {L : List UInt8} {z : Int} {b : UInt8} {t : TypeId} (h : Padd w B g v L) (hW : ∃ q, W = (w.alloc (.cells #[.int .u8 z] t)).drewN q) (hz : z = (b.toNat : Int))
    (ho : w3.ownsRow B 5 1 v3 (L.length + 1) (bys L ++ [.int .u8 z])) (hg : W.grownBy w3 v.ownBlock) (hn : v3.ownBlock = v.ownBlock ∨ v3.ownBlock = some W.heap.size) :
    (w3.cell? ⟨g, 1, none⟩ = some v ∧ w3.frozen? ⟨g, 1, none⟩ = false) ∧
    Hid (Padd (w3.setCell ⟨g, 1, none⟩ v3) B g v3 (L ++ [b]) ∧ Kept (foot g v) w (w3.setCell ⟨g, 1, none⟩ v3) ∧ Newer w.heap.size v v3) := by
  obtain ⟨q, rfl⟩ := hW
  subst hz
  have K1 : Kept (foot g v) w w3 := (((Kept.refl (foot g v) w).alloc _).drewN q).grown hg (fun k hk _ => .inr hk)
  have K1' : Kept (fun k => v.ownBlock = some k) w w3 := (((Kept.refl (fun k => v.ownBlock = some k) w).alloc _).drewN q).grown hg (fun k hk _ => hk)
  have hB3 : Blo w3 g 136 #[.bool true, v] := h.blo.kept K1' (fun hf => h.own_ne hf)
  have hne : v3.ownBlock ≠ some g := by
    intro e
    rcases ho.2 with ⟨rfl, _⟩ | ⟨g', cap, cur, rfl, _, hg', _⟩
    · simp [Value.ownBlock] at e
    · have : g' = g := by simpa [Value.ownBlock] using e
      subst this
      exact (Blo.ne (show Blo w3 g' 5 cur from hg') hB3 (by decide)) rfl
  refine ⟨⟨hB3.cell 1, hB3.frozen 1⟩, ⟨by have := hB3.set 1 v3; simpa using this, ?_, h.ge⟩, K1.put (.inl rfl) _, ?_⟩
  · have := own_kept ho (Kept.one w3 g 1 none v3) (fun i hi hi' => hne (by cases hi'; exact hi))
    rw [bys_app, List.length_append]
    exact this
  · intro k hk
    rcases hn with e | e
    · exact .inl (e ▸ hk)
    · right
      rw [e] at hk
      injection hk with hk
      have : (((w.alloc (.cells #[.int .u8 (b.toNat : Int)] t)).drewN q)).heap.size = w.heap.size + 1 := by simp [World.drewN]
      omega

theorem beM_take (W x j : Nat) (h : j < W) : (beM W x).take (j + 1) = (beM W x).take j ++ [UInt8.ofNat (x / 2 ^ (8 * (W - 1 - j)))] := by
  rw [List.take_succ_eq_append_getElem (by rw [beM_len]; exact h)]
  simp [beM]
theorem lay_len (l : List UInt8) (W : Nat) (xs : List Nat) (k j n : Nat) (hk : k < xs.length) (hn : xs.length = n) (hj : j ≤ W) (hbd : l.length + n * W ≤ 1099511627776) :
    (l ++ beAll W (xs.take k) ++ (beM W xs[k]).take j).length ≤ 1099511627776 := by
  have h1 : (k + 1) * W ≤ n * W := Nat.mul_le_mul_right _ (by omega)
  have h2 : (xs.take k).length = k := by simp; omega
  simp only [List.length_append, beAll_len, List.length_take, beM_len, Nat.add_mul] at *
  rw [Nat.min_eq_left (by omega : k ≤ xs.length)]
  omega

theorem byte_s0 (x : Nat) (hx : x < 18446744073709551616) : IntKind.u8.wrap (IntKind.u64.wrap (x : Int)) = ((UInt8.ofNat (x / 2 ^ 0)).toNat : Int) := by
  rw [IntWalk.u64_in _ (by omega), IntKind.wrap_u8, UInt8.toNat_ofNat']; simp only [Nat.reducePow]; omega
theorem byte_s8 (x : Nat) (hx : x < 18446744073709551616) : IntKind.u8.wrap (IntKind.u64.wrap (x : Int) / 256) = ((UInt8.ofNat (x / 2 ^ 8)).toNat : Int) := by
  rw [IntWalk.u64_in _ (by omega), IntKind.wrap_u8, UInt8.toNat_ofNat']; simp only [Nat.reducePow]; omega
theorem byte_s16 (x : Nat) (hx : x < 18446744073709551616) : IntKind.u8.wrap (IntKind.u64.wrap (x : Int) / 65536) = ((UInt8.ofNat (x / 2 ^ 16)).toNat : Int) := by
  rw [IntWalk.u64_in _ (by omega), IntKind.wrap_u8, UInt8.toNat_ofNat']; simp only [Nat.reducePow]; omega
theorem byte_s24 (x : Nat) (hx : x < 18446744073709551616) : IntKind.u8.wrap (IntKind.u64.wrap (x : Int) / 16777216) = ((UInt8.ofNat (x / 2 ^ 24)).toNat : Int) := by
  rw [IntWalk.u64_in _ (by omega), IntKind.wrap_u8, UInt8.toNat_ofNat']; simp only [Nat.reducePow]; omega

set_option maxHeartbeats 1000000 in
theorem lay8 (B g : Nat) (v : Value) (l : List UInt8) (A : Option Addr) (n c : Nat) (xs : List Nat) (w : World) (h : Padd w B g v l) (hs : Nums .u8 w A n c xs) (hB : B ≤ w.heap.size)
    (hap : ∀ i, Lies A n i → ¬ foot g v i) (hbd : l.length + n * 1 ≤ 1099511627776) (hx : ∀ x ∈ xs, x < 256 ^ 1) :
    Calls Try.prog 79 #[.pointer (some ⟨g, 0, none⟩), .int .i64 1, .slice A n c] w fun e w' =>
      ∃ v', e = .returned (.pointer (some ⟨g, 0, none⟩)) ∧ Padd w' B g v' (l ++ beAll 1 xs) ∧ Kept (foot g v) w w' ∧ Newer w.heap.size v v' := by
  have hnc := hs.2.1
  have hcc := hs.2.2.1
  have h0 := h.c0
  go_enter Try.func79, Try.ntmps79
  go_wp2_with (go_at_call 80; refine (pnone_yes g _ h0).mono ?_; rintro e w' ⟨rfl, rfl⟩)
  go_loopw [15] (fun i wr => ∃ (k : Nat) (v' : Value), k ≤ n ∧ i = .int .i64 k ∧ Padd wr B g v' (l ++ beAll 1 (xs.take k)) ∧ Kept (foot g v) w wr ∧ Newer w.heap.size v v') (fun i _ => n - (intOf i).toNat)
  case atStart => exact ⟨0, v, Nat.zero_le _, rfl, by simpa [beAll] using h, Kept.refl _ _, Newer.refl _ _⟩
  case round =>
    obtain ⟨k, v', hk, rfl, hp, hkp, hnw⟩ := hrel
    by_cases hlt : k < n
    · have hkl : k < xs.length := by rw [hs.1]; exact hlt
      obtain ⟨b, o, rfl, hce⟩ := (hs.kept hkp hap).at hkl
      have HP := Lib.hid hp
      have HK := Lib.hid hkp
      have HN := Lib.hid hnw
      have hxk : xs[k] < 256 ^ 1 := hx _ (List.getElem_mem hkl)
      have hxk' : xs[k] < 18446744073709551616 := Nat.lt_of_lt_of_le hxk (by decide)
      have HX := Lib.hid hxk
      clear hp hkp hnw hxk
      go_wp2
      obtain ⟨wo, rfl⟩ : ∃ wo : World, wo = wr := ⟨_, rfl⟩
      go_loopw [9] (fun sh wr => ∃ (j : Nat) (v' : Value) (z : Int), j ≤ 1 ∧ z = 8 * (1 - 1 : Int) - 8 * j ∧ sh = .int .i64 z ∧ Padd wr B g v' (l ++ beAll 1 (xs.take k) ++ (beM 1 xs[k]).take j) ∧ Kept (foot g v) w wr ∧ Newer w.heap.size v v') (fun sh _ => (intOf sh + 8).toNat)
      case atStart => exact ⟨0, v', 8 * (1 - 1), by omega, by omega, by go_num, by simpa using HP.out, HK.out, HN.out⟩
      case round =>
        obtain ⟨j, v2, z, hj, hz, rfl, hp, hkp, hnw⟩ := hrel
        by_cases hjl : j < 1
        · have hLl := lay_len l 1 xs k j n hkl hs.1 hj hbd
          have hLn := beM_take 1 xs[k] j hjl
          obtain ⟨L, hL⟩ : ∃ L, L = l ++ beAll 1 (xs.take k) ++ (beM 1 xs[k]).take j := ⟨_, rfl⟩
          rw [← hL] at hp hLl
          obtain ⟨bb, hbb⟩ : ∃ bb, bb = UInt8.ofNat (xs[k] / 2 ^ (8 * (1 - 1 - j))) := ⟨_, rfl⟩
          rw [← hbb] at hLn
          have HL := Lib.hid hL
          have HLn := Lib.hid hLn
          have HBB := Lib.hid hbb
          have q1 := hp.c1
          have q2 := hp.blo.frozen 1
          have hgl : g < wr.heap.size := hp.blo.lt
          have hga := fun o => World.cell?_alloc_lt wr o ⟨g, 1, none⟩ hgl
          rw [q1] at hga
          have hsz : B ≤ wr.heap.size := Nat.le_trans hB hkp.size
          obtain ⟨i0, hi, hz0, hz1, hz2⟩ := info_parts Try.infb
          have HP2 := Lib.hid hp
          have HK2 := Lib.hid hkp
          have HN2 := Lib.hid hnw
          clear hp hkp hnw hL hLn hbb
          rcases (show z = 0 ∨ z = 8 ∨ z = 16 ∨ z = 24 by omega) with rfl | rfl | rfl | rfl
          all_goals first | (exfalso; omega) | skip
          all_goals
            have HZ := Lib.hid hz
            clear hz
            go_wp2
            go_region_law (refine step_own rfl (.tmp 30) (.tmp 36) 31 rfl B 5 i0 (.int .u8 0) 1 1 Try.underlying31 hi hz0 hz1 hz2 rfl (by decide) v2 _ _ rfl (by exact HP2.out.own.alloc _) ⟨_, 0, none⟩ 1 1 [_] rfl rfl (cell_one_new _ _ _) (by intro u hu; simp at hu; subst hu; rfl) (by unfold maxLen; omega) (by omega) (by simp; omega) ?_; intro v3 w3 ho3 hg3 hn3; obtain ⟨A3, c3, rfl⟩ := own_form ho3; obtain ⟨⟨s1, s2⟩, HQ⟩ := pad_step (b := bb) HP2.out ⟨1, rfl⟩ (by rw [HBB.out]; first | (rw [show 8 * (1 - 1 - j) = 0 from by have := HZ.out; omega]; exact byte_s0 _ hxk') | (rw [show 8 * (1 - 1 - j) = 8 from by have := HZ.out; omega]; exact byte_s8 _ hxk') | (rw [show 8 * (1 - 1 - j) = 16 from by have := HZ.out; omega]; exact byte_s16 _ hxk') | (rw [show 8 * (1 - 1 - j) = 24 from by have := HZ.out; omega]; exact byte_s24 _ hxk')) ho3 hg3 hn3; clear ho3 hg3 hn3)
            all_goals
              go_wp2
              go_roundw
              case rel => exact ⟨j + 1, _, _, by omega, by have := HZ.out; omega, rfl, by rw [HLn.out, ← List.append_assoc, ← HL.out]; exact HQ.out.1, HK2.out.trans HQ.out.2.1 (foot_newer HN2.out), HN2.out.trans HQ.out.2.2 HK2.out.size⟩
              case measure => simp [intOf]
        · have hfull : (beM 1 xs[k]).take j = beM 1 xs[k] := List.take_of_length_le (by rw [beM_len]; omega)
          rw [hfull, List.append_assoc, ← beAll_snoc 1 xs k hkl] at hp
          have HP2 := Lib.hid hp
          have HK2 := Lib.hid hkp
          have HN2 := Lib.hid hnw
          clear hp hkp hnw hfull
          have hz2 : z < 0 := by omega
          have HZ := Lib.hid hz
          clear hz
          go_wp2
          go_roundw
          case rel => exact ⟨k + 1, _, by omega, by go_num, HP2.out, HK2.out, HN2.out⟩
          case measure => simp [intOf]; omega
    · have hfull : xs.take k = xs := List.take_of_length_le (by rw [hs.1]; omega)
      rw [hfull] at hp
      have HP2 := Lib.hid hp
      have HK2 := Lib.hid hkp
      have HN2 := Lib.hid hnw
      clear hp hkp hnw hfull
      go_wp2
      go_ret
      exact ⟨_, rfl, HP2.out, HK2.out, HN2.out⟩
set_option maxHeartbeats 1000000 in
theorem lay16 (B g : Nat) (v : Value) (l : List UInt8) (A : Option Addr) (n c : Nat) (xs : List Nat) (w : World) (h : Padd w B g v l) (hs : Nums .u16 w A n c xs) (hB : B ≤ w.heap.size)
    (hap : ∀ i, Lies A n i → ¬ foot g v i) (hbd : l.length + n * 2 ≤ 1099511627776) (hx : ∀ x ∈ xs, x < 256 ^ 2) :
    Calls Try.prog 102 #[.pointer (some ⟨g, 0, none⟩), .int .i64 2, .slice A n c] w fun e w' =>
      ∃ v', e = .returned (.pointer (some ⟨g, 0, none⟩)) ∧ Padd w' B g v' (l ++ beAll 2 xs) ∧ Kept (foot g v) w w' ∧ Newer w.heap.size v v' := by
  have hnc := hs.2.1
  have hcc := hs.2.2.1
  have h0 := h.c0
  go_enter Try.func102, Try.ntmps102
  go_wp2_with (go_at_call 80; refine (pnone_yes g _ h0).mono ?_; rintro e w' ⟨rfl, rfl⟩)
  go_loopw [15] (fun i wr => ∃ (k : Nat) (v' : Value), k ≤ n ∧ i = .int .i64 k ∧ Padd wr B g v' (l ++ beAll 2 (xs.take k)) ∧ Kept (foot g v) w wr ∧ Newer w.heap.size v v') (fun i _ => n - (intOf i).toNat)
  case atStart => exact ⟨0, v, Nat.zero_le _, rfl, by simpa [beAll] using h, Kept.refl _ _, Newer.refl _ _⟩
  case round =>
    obtain ⟨k, v', hk, rfl, hp, hkp, hnw⟩ := hrel
    by_cases hlt : k < n
    · have hkl : k < xs.length := by rw [hs.1]; exact hlt
      obtain ⟨b, o, rfl, hce⟩ := (hs.kept hkp hap).at hkl
      have HP := Lib.hid hp
      have HK := Lib.hid hkp
      have HN := Lib.hid hnw
      have hxk : xs[k] < 256 ^ 2 := hx _ (List.getElem_mem hkl)
      have hxk' : xs[k] < 18446744073709551616 := Nat.lt_of_lt_of_le hxk (by decide)
      have HX := Lib.hid hxk
      clear hp hkp hnw hxk
      go_wp2
      obtain ⟨wo, rfl⟩ : ∃ wo : World, wo = wr := ⟨_, rfl⟩
      go_loopw [9] (fun sh wr => ∃ (j : Nat) (v' : Value) (z : Int), j ≤ 2 ∧ z = 8 * (2 - 1 : Int) - 8 * j ∧ sh = .int .i64 z ∧ Padd wr B g v' (l ++ beAll 2 (xs.take k) ++ (beM 2 xs[k]).take j) ∧ Kept (foot g v) w wr ∧ Newer w.heap.size v v') (fun sh _ => (intOf sh + 8).toNat)
      case atStart => exact ⟨0, v', 8 * (2 - 1), by omega, by omega, by go_num, by simpa using HP.out, HK.out, HN.out⟩
      case round =>
        obtain ⟨j, v2, z, hj, hz, rfl, hp, hkp, hnw⟩ := hrel
        by_cases hjl : j < 2
        · have hLl := lay_len l 2 xs k j n hkl hs.1 hj hbd
          have hLn := beM_take 2 xs[k] j hjl
          obtain ⟨L, hL⟩ : ∃ L, L = l ++ beAll 2 (xs.take k) ++ (beM 2 xs[k]).take j := ⟨_, rfl⟩
          rw [← hL] at hp hLl
          obtain ⟨bb, hbb⟩ : ∃ bb, bb = UInt8.ofNat (xs[k] / 2 ^ (8 * (2 - 1 - j))) := ⟨_, rfl⟩
          rw [← hbb] at hLn
          have HL := Lib.hid hL
          have HLn := Lib.hid hLn
          have HBB := Lib.hid hbb
          have q1 := hp.c1
          have q2 := hp.blo.frozen 1
          have hgl : g < wr.heap.size := hp.blo.lt
          have hga := fun o => World.cell?_alloc_lt wr o ⟨g, 1, none⟩ hgl
          rw [q1] at hga
          have hsz : B ≤ wr.heap.size := Nat.le_trans hB hkp.size
          obtain ⟨i0, hi, hz0, hz1, hz2⟩ := info_parts Try.infb
          have HP2 := Lib.hid hp
          have HK2 := Lib.hid hkp
          have HN2 := Lib.hid hnw
          clear hp hkp hnw hL hLn hbb
          rcases (show z = 0 ∨ z = 8 ∨ z = 16 ∨ z = 24 by omega) with rfl | rfl | rfl | rfl
          all_goals first | (exfalso; omega) | skip
          all_goals
            have HZ := Lib.hid hz
            clear hz
            go_wp2
            go_region_law (refine step_own rfl (.tmp 30) (.tmp 36) 31 rfl B 5 i0 (.int .u8 0) 1 1 Try.underlying31 hi hz0 hz1 hz2 rfl (by decide) v2 _ _ rfl (by exact HP2.out.own.alloc _) ⟨_, 0, none⟩ 1 1 [_] rfl rfl (cell_one_new _ _ _) (by intro u hu; simp at hu; subst hu; rfl) (by unfold maxLen; omega) (by omega) (by simp; omega) ?_; intro v3 w3 ho3 hg3 hn3; obtain ⟨A3, c3, rfl⟩ := own_form ho3; obtain ⟨⟨s1, s2⟩, HQ⟩ := pad_step (b := bb) HP2.out ⟨1, rfl⟩ (by rw [HBB.out]; first | (rw [show 8 * (2 - 1 - j) = 0 from by have := HZ.out; omega]; exact byte_s0 _ hxk') | (rw [show 8 * (2 - 1 - j) = 8 from by have := HZ.out; omega]; exact byte_s8 _ hxk') | (rw [show 8 * (2 - 1 - j) = 16 from by have := HZ.out; omega]; exact byte_s16 _ hxk') | (rw [show 8 * (2 - 1 - j) = 24 from by have := HZ.out; omega]; exact byte_s24 _ hxk')) ho3 hg3 hn3; clear ho3 hg3 hn3)
            all_goals
              go_wp2
              go_roundw
              case rel => exact ⟨j + 1, _, _, by omega, by have := HZ.out; omega, rfl, by rw [HLn.out, ← List.append_assoc, ← HL.out]; exact HQ.out.1, HK2.out.trans HQ.out.2.1 (foot_newer HN2.out), HN2.out.trans HQ.out.2.2 HK2.out.size⟩
              case measure => simp [intOf]
        · have hfull : (beM 2 xs[k]).take j = beM 2 xs[k] := List.take_of_length_le (by rw [beM_len]; omega)
          rw [hfull, List.append_assoc, ← beAll_snoc 2 xs k hkl] at hp
          have HP2 := Lib.hid hp
          have HK2 := Lib.hid hkp
          have HN2 := Lib.hid hnw
          clear hp hkp hnw hfull
          have hz2 : z < 0 := by omega
          have HZ := Lib.hid hz
          clear hz
          go_wp2
          go_roundw
          case rel => exact ⟨k + 1, _, by omega, by go_num, HP2.out, HK2.out, HN2.out⟩
          case measure => simp [intOf]; omega
    · have hfull : xs.take k = xs := List.take_of_length_le (by rw [hs.1]; omega)
      rw [hfull] at hp
      have HP2 := Lib.hid hp
      have HK2 := Lib.hid hkp
      have HN2 := Lib.hid hnw
      clear hp hkp hnw hfull
      go_wp2
      go_ret
      exact ⟨_, rfl, HP2.out, HK2.out, HN2.out⟩
set_option maxHeartbeats 1000000 in
theorem lay32 (B g : Nat) (v : Value) (l : List UInt8) (A : Option Addr) (n c : Nat) (xs : List Nat) (w : World) (h : Padd w B g v l) (hs : Nums .u32 w A n c xs) (hB : B ≤ w.heap.size)
    (hap : ∀ i, Lies A n i → ¬ foot g v i) (hbd : l.length + n * 4 ≤ 1099511627776) (hx : ∀ x ∈ xs, x < 256 ^ 4) :
    Calls Try.prog 78 #[.pointer (some ⟨g, 0, none⟩), .int .i64 4, .slice A n c] w fun e w' =>
      ∃ v', e = .returned (.pointer (some ⟨g, 0, none⟩)) ∧ Padd w' B g v' (l ++ beAll 4 xs) ∧ Kept (foot g v) w w' ∧ Newer w.heap.size v v' := by
  have hnc := hs.2.1
  have hcc := hs.2.2.1
  have h0 := h.c0
  go_enter Try.func78, Try.ntmps78
  go_wp2_with (go_at_call 80; refine (pnone_yes g _ h0).mono ?_; rintro e w' ⟨rfl, rfl⟩)
  go_loopw [15] (fun i wr => ∃ (k : Nat) (v' : Value), k ≤ n ∧ i = .int .i64 k ∧ Padd wr B g v' (l ++ beAll 4 (xs.take k)) ∧ Kept (foot g v) w wr ∧ Newer w.heap.size v v') (fun i _ => n - (intOf i).toNat)
  case atStart => exact ⟨0, v, Nat.zero_le _, rfl, by simpa [beAll] using h, Kept.refl _ _, Newer.refl _ _⟩
  case round =>
    obtain ⟨k, v', hk, rfl, hp, hkp, hnw⟩ := hrel
    by_cases hlt : k < n
    · have hkl : k < xs.length := by rw [hs.1]; exact hlt
      obtain ⟨b, o, rfl, hce⟩ := (hs.kept hkp hap).at hkl
      have HP := Lib.hid hp
      have HK := Lib.hid hkp
      have HN := Lib.hid hnw
      have hxk : xs[k] < 256 ^ 4 := hx _ (List.getElem_mem hkl)
      have hxk' : xs[k] < 18446744073709551616 := Nat.lt_of_lt_of_le hxk (by decide)
      have HX := Lib.hid hxk
      clear hp hkp hnw hxk
      go_wp2
      obtain ⟨wo, rfl⟩ : ∃ wo : World, wo = wr := ⟨_, rfl⟩
      go_loopw [9] (fun sh wr => ∃ (j : Nat) (v' : Value) (z : Int), j ≤ 4 ∧ z = 8 * (4 - 1 : Int) - 8 * j ∧ sh = .int .i64 z ∧ Padd wr B g v' (l ++ beAll 4 (xs.take k) ++ (beM 4 xs[k]).take j) ∧ Kept (foot g v) w wr ∧ Newer w.heap.size v v') (fun sh _ => (intOf sh + 8).toNat)
      case atStart => exact ⟨0, v', 8 * (4 - 1), by omega, by omega, by go_num, by simpa using HP.out, HK.out, HN.out⟩
      case round =>
        obtain ⟨j, v2, z, hj, hz, rfl, hp, hkp, hnw⟩ := hrel
        by_cases hjl : j < 4
        · have hLl := lay_len l 4 xs k j n hkl hs.1 hj hbd
          have hLn := beM_take 4 xs[k] j hjl
          obtain ⟨L, hL⟩ : ∃ L, L = l ++ beAll 4 (xs.take k) ++ (beM 4 xs[k]).take j := ⟨_, rfl⟩
          rw [← hL] at hp hLl
          obtain ⟨bb, hbb⟩ : ∃ bb, bb = UInt8.ofNat (xs[k] / 2 ^ (8 * (4 - 1 - j))) := ⟨_, rfl⟩
          rw [← hbb] at hLn
          have HL := Lib.hid hL
          have HLn := Lib.hid hLn
          have HBB := Lib.hid hbb
          have q1 := hp.c1
          have q2 := hp.blo.frozen 1
          have hgl : g < wr.heap.size := hp.blo.lt
          have hga := fun o => World.cell?_alloc_lt wr o ⟨g, 1, none⟩ hgl
          rw [q1] at hga
          have hsz : B ≤ wr.heap.size := Nat.le_trans hB hkp.size
          obtain ⟨i0, hi, hz0, hz1, hz2⟩ := info_parts Try.infb
          have HP2 := Lib.hid hp
          have HK2 := Lib.hid hkp
          have HN2 := Lib.hid hnw
          clear hp hkp hnw hL hLn hbb
          rcases (show z = 0 ∨ z = 8 ∨ z = 16 ∨ z = 24 by omega) with rfl | rfl | rfl | rfl
          all_goals first | (exfalso; omega) | skip
          all_goals
            have HZ := Lib.hid hz
            clear hz
            go_wp2
            go_region_law (refine step_own rfl (.tmp 30) (.tmp 36) 31 rfl B 5 i0 (.int .u8 0) 1 1 Try.underlying31 hi hz0 hz1 hz2 rfl (by decide) v2 _ _ rfl (by exact HP2.out.own.alloc _) ⟨_, 0, none⟩ 1 1 [_] rfl rfl (cell_one_new _ _ _) (by intro u hu; simp at hu; subst hu; rfl) (by unfold maxLen; omega) (by omega) (by simp; omega) ?_; intro v3 w3 ho3 hg3 hn3; obtain ⟨A3, c3, rfl⟩ := own_form ho3; obtain ⟨⟨s1, s2⟩, HQ⟩ := pad_step (b := bb) HP2.out ⟨1, rfl⟩ (by rw [HBB.out]; first | (rw [show 8 * (4 - 1 - j) = 0 from by have := HZ.out; omega]; exact byte_s0 _ hxk') | (rw [show 8 * (4 - 1 - j) = 8 from by have := HZ.out; omega]; exact byte_s8 _ hxk') | (rw [show 8 * (4 - 1 - j) = 16 from by have := HZ.out; omega]; exact byte_s16 _ hxk') | (rw [show 8 * (4 - 1 - j) = 24 from by have := HZ.out; omega]; exact byte_s24 _ hxk')) ho3 hg3 hn3; clear ho3 hg3 hn3)
            all_goals
              go_wp2
              go_roundw
              case rel => exact ⟨j + 1, _, _, by omega, by have := HZ.out; omega, rfl, by rw [HLn.out, ← List.append_assoc, ← HL.out]; exact HQ.out.1, HK2.out.trans HQ.out.2.1 (foot_newer HN2.out), HN2.out.trans HQ.out.2.2 HK2.out.size⟩
              case measure => simp [intOf]
        · have hfull : (beM 4 xs[k]).take j = beM 4 xs[k] := List.take_of_length_le (by rw [beM_len]; omega)
          rw [hfull, List.append_assoc, ← beAll_snoc 4 xs k hkl] at hp
          have HP2 := Lib.hid hp
          have HK2 := Lib.hid hkp
          have HN2 := Lib.hid hnw
          clear hp hkp hnw hfull
          have hz2 : z < 0 := by omega
          have HZ := Lib.hid hz
          clear hz
          go_wp2
          go_roundw
          case rel => exact ⟨k + 1, _, by omega, by go_num, HP2.out, HK2.out, HN2.out⟩
          case measure => simp [intOf]; omega
    · have hfull : xs.take k = xs := List.take_of_length_le (by rw [hs.1]; omega)
      rw [hfull] at hp
      have HP2 := Lib.hid hp
      have HK2 := Lib.hid hkp
      have HN2 := Lib.hid hnw
      clear hp hkp hnw hfull
      go_wp2
      go_ret
      exact ⟨_, rfl, HP2.out, HK2.out, HN2.out⟩
end Go.Proofs.Ytbkjobmjapbmpaa
/- Contracts of package cut's pad, second part: Lay, Byte, Two, Four, Mac, Len, Done, Fill. -/
namespace Go.Proofs.Ytbkjobmjapbmpaa
open Go.RowKit
set_option linter.unusedVariables false

theorem Lay_yes (w : World) : Calls Try.prog 41 #[] w fun e w' => e = .returned (.pointer (some ⟨w.heap.size, 0, none⟩)) ∧ Padd w' w.heap.size w.heap.size (.slice none 0 0) [] ∧ Kept Nil w w' := by
  go_enter Try.func41, Try.ntmps41
  go_wp2
  go_ret
  exact ⟨rfl, ⟨Blo.new w 136 #[.bool true, .slice none 0 0], World.ownsRow_nil _ _ _ _, Nat.le_refl _⟩, (Kept.refl _ _).alloc _⟩
theorem Padd.mono {w : World} {B B' g : Nat} {v : Value} {l : List UInt8} (h : Padd w B g v l) (hB : B' ≤ B) : Padd w B' g v l := ⟨h.blo, own_mono h.own hB, Nat.le_trans hB h.ge⟩

theorem PByte_yes (B g : Nat) (v : Value) (l : List UInt8) (A : Option Addr) (n c : Nat) (xs : List Nat) (w : World) (h : Padd w B g v l) (hs : Nums .u8 w A n c xs) (hB : B ≤ w.heap.size)
    (hap : ∀ i, Lies A n i → ¬ foot g v i) (hbd : l.length + n * 1 ≤ 1099511627776) (hx : ∀ x ∈ xs, x < 256 ^ 1) :
    Calls Try.prog 44 #[.pointer (some ⟨g, 0, none⟩), .slice A n c] w fun e w' =>
      ∃ v', e = .returned (.pointer (some ⟨g, 0, none⟩)) ∧ Padd w' B g v' (l ++ beAll 1 xs) ∧ Kept (foot g v) w w' ∧ Newer w.heap.size v v' := by
  go_enter Try.func44, Try.ntmps44
  go_wp2_with fail
  refine (lay8 B g v l A n c xs _ h hs hB hap hbd hx).mono ?_
  rintro e w1 ⟨v', rfl, hp, hk, hn⟩
  have HP := Lib.hid hp
  have HK := Lib.hid hk
  have HN := Lib.hid hn
  clear hp hk hn h hs hap
  go_wp2
  go_ret
  exact ⟨_, rfl, HP.out, HK.out, HN.out⟩
theorem PTwo_yes (B g : Nat) (v : Value) (l : List UInt8) (A : Option Addr) (n c : Nat) (xs : List Nat) (w : World) (h : Padd w B g v l) (hs : Nums .u16 w A n c xs) (hB : B ≤ w.heap.size)
    (hap : ∀ i, Lies A n i → ¬ foot g v i) (hbd : l.length + n * 2 ≤ 1099511627776) (hx : ∀ x ∈ xs, x < 256 ^ 2) :
    Calls Try.prog 69 #[.pointer (some ⟨g, 0, none⟩), .slice A n c] w fun e w' =>
      ∃ v', e = .returned (.pointer (some ⟨g, 0, none⟩)) ∧ Padd w' B g v' (l ++ beAll 2 xs) ∧ Kept (foot g v) w w' ∧ Newer w.heap.size v v' := by
  go_enter Try.func69, Try.ntmps69
  go_wp2_with fail
  refine (lay16 B g v l A n c xs _ h hs hB hap hbd hx).mono ?_
  rintro e w1 ⟨v', rfl, hp, hk, hn⟩
  have HP := Lib.hid hp
  have HK := Lib.hid hk
  have HN := Lib.hid hn
  clear hp hk hn h hs hap
  go_wp2
  go_ret
  exact ⟨_, rfl, HP.out, HK.out, HN.out⟩
theorem PFour_yes (B g : Nat) (v : Value) (l : List UInt8) (A : Option Addr) (n c : Nat) (xs : List Nat) (w : World) (h : Padd w B g v l) (hs : Nums .u32 w A n c xs) (hB : B ≤ w.heap.size)
    (hap : ∀ i, Lies A n i → ¬ foot g v i) (hbd : l.length + n * 4 ≤ 1099511627776) (hx : ∀ x ∈ xs, x < 256 ^ 4) :
    Calls Try.prog 43 #[.pointer (some ⟨g, 0, none⟩), .slice A n c] w fun e w' =>
      ∃ v', e = .returned (.pointer (some ⟨g, 0, none⟩)) ∧ Padd w' B g v' (l ++ beAll 4 xs) ∧ Kept (foot g v) w w' ∧ Newer w.heap.size v v' := by
  go_enter Try.func43, Try.ntmps43
  go_wp2_with fail
  refine (lay32 B g v l A n c xs _ h hs hB hap hbd hx).mono ?_
  rintro e w1 ⟨v', rfl, hp, hk, hn⟩
  have HP := Lib.hid hp
  have HK := Lib.hid hk
  have HN := Lib.hid hn
  clear hp hk hn h hs hap
  go_wp2
  go_ret
  exact ⟨_, rfl, HP.out, HK.out, HN.out⟩

theorem Done_yes (B g : Nat) (v : Value) (l : List UInt8) (w : World) (h : Padd w B g v l) (hl : l.length ≤ 140737488355328) :
    Calls Try.prog 45 #[.pointer (some ⟨g, 0, none⟩)] w fun e w' => ∃ v', e = .returned v' ∧ Made w w' v' l := by
  obtain ⟨A, c, rfl, hb, _⟩ := Byt.of_own h.own
  have h0 := h.c0
  have h1 := h.c1
  go_enter Try.func45, Try.ntmps45
  go_wp2_with (go_at_call 80; refine (pnone_yes g _ h0).mono ?_; rintro e w' ⟨rfl, rfl⟩)
  refine (sclone A l.length c l _ hb hl).mono ?_
  rintro e w1 ⟨v', rfl, hm⟩
  have HM := Lib.hid hm
  clear hm hb h
  go_wp2
  go_ret
  exact ⟨_, rfl, HM.out⟩

/-- A slice of stations' addresses reads as ms. -/
def Macs (w : World) (A : Option Addr) (n c : Nat) (ms : List (List UInt8)) : Prop :=
  ms.length = n ∧ n ≤ c ∧ c ≤ 9223372036854775807 ∧ (∀ m ∈ ms, m.length = 6) ∧ (0 < n → ∃ b o, A = some ⟨b, o, none⟩ ∧ ∀ i (h : i < ms.length) j (hj : j < ms[i].length), w.cell? ⟨b, o + i * 6 + j, none⟩ = some (.int .u8 (ms[i][j].toNat : Int)))
theorem Macs.kept {w w' : World} {A : Option Addr} {n c : Nat} {ms : List (List UInt8)} {F : Nat → Prop} (h : Macs w A n c ms) (q : Kept F w w') (hF : ∀ i, Lies A n i → ¬ F i) : Macs w' A n c ms := by
  refine ⟨h.1, h.2.1, h.2.2.1, h.2.2.2.1, fun hn => ?_⟩
  obtain ⟨b, o, rfl, hc⟩ := h.2.2.2.2 hn
  exact ⟨b, o, rfl, fun i hi j hj => q.cell (hc i hi j hj) (hF b ⟨hn, _, rfl, rfl⟩)⟩

theorem PMac_yes (B g : Nat) (v : Value) (l : List UInt8) (A : Option Addr) (n c : Nat) (ms : List (List UInt8)) (w : World) (h : Padd w B g v l) (hs : Macs w A n c ms) (hB : B ≤ w.heap.size)
    (hap : ∀ i, Lies A n i → ¬ foot g v i) (hbd : l.length + n * 6 ≤ 1099511627776) :
    Calls Try.prog 70 #[.pointer (some ⟨g, 0, none⟩), .slice A n c] w fun e w' =>
      ∃ v', e = .returned (.pointer (some ⟨g, 0, none⟩)) ∧ Padd w' B g v' (l ++ ms.flatten) ∧ Kept (foot g v) w w' ∧ Newer w.heap.size v v' := by
  have hnc := hs.2.1
  have hcc := hs.2.2.1
  go_enter Try.func70, Try.ntmps70
  go_wp2
  go_loopw [9] (fun i wr => ∃ (k : Nat) (v' : Value), k ≤ n ∧ i = .int .i64 k ∧ Padd wr B g v' (l ++ (ms.take k).flatten) ∧ Kept (foot g v) w wr ∧ Newer w.heap.size v v') (fun i _ => n - (intOf i).toNat)
  case atStart => exact ⟨0, v, Nat.zero_le _, rfl, by simpa using h, Kept.refl _ _, Newer.refl _ _⟩
  case round =>
    obtain ⟨k, v', hk, rfl, hp, hkp, hnw⟩ := hrel
    by_cases hlt : k < n
    · have hkl : k < ms.length := by rw [hs.1]; exact hlt
      obtain ⟨b, o, rfl, hce⟩ := (hs.kept hkp hap).2.2.2.2 (by omega)
      have hm6 := hs.2.2.2.1 _ (List.getElem_mem hkl)
      have hce := hce k hkl
      generalize hm : ms[k] = m at *
      obtain ⟨x0, x1, x2, x3, x4, x5, rfl⟩ := six_of _ hm6
      have q0 := hce 0 (by simp)
      have q1 := hce 1 (by simp)
      have q2 := hce 2 (by simp)
      have q3 := hce 3 (by simp)
      have q4 := hce 4 (by simp)
      have q5 := hce 5 (by simp)
      simp at q0 q1 q2 q3 q4 q5
      have HM := Lib.hid hm
      have HP := Lib.hid hp
      have HK := Lib.hid hkp
      have HN := Lib.hid hnw
      clear hp hkp hnw hce hm hm6
      have HBy : Hid (Nums .u8 (wr.alloc (.cells (bys [x0, x1, x2, x3, x4, x5]).toArray 28)) (some ⟨wr.heap.size, 0, none⟩) 6 6 ([x0, x1, x2, x3, x4, x5].map UInt8.toNat)) := by
        exact (Byt.lit wr [x0, x1, x2, x3, x4, x5] 28 (by simp)).nums
      have hfl : (l ++ (ms.take k).flatten).length + 6 * 1 ≤ 1099511627776 := by
        have h1 : (ms.take k).flatten.length = k * 6 := by
          have : ∀ (q : List (List UInt8)), (∀ m ∈ q, m.length = 6) → q.flatten.length = q.length * 6 := by
            intro q hq
            induction q with
            | nil => rfl
            | cons a q ih => simp only [List.flatten_cons, List.length_append, List.length_cons]; rw [ih (fun m hm => hq m (by simp [hm])), hq a (by simp)]; omega
          rw [this _ (fun m hm => hs.2.2.2.1 m (List.mem_of_mem_take hm))]
          simp; omega
        rw [List.length_append, h1]; omega
      have HFl := Lib.hid hfl
      clear hfl
      go_wp2_with fail
      refine (PByte_yes B g v' _ _ 6 6 _ _ (by exact HP.out.kept ((Kept.refl Nil wr).alloc _) (fun _ _ hf => hf)) (by exact HBy.out) (by have := HK.out.size; simp; omega) ?_ HFl.out ?_).mono ?_
      · rintro i ⟨_, ad, e, rfl⟩ hf
        cases e
        rcases hf with hf | hf
        · have := HP.out.blo.lt; simp at hf; omega
        · have := (HP.out.own.lt _ hf).2; simp at this
      · intro x hx
        simp only [List.mem_map] at hx
        obtain ⟨b', _, rfl⟩ := hx
        have := b'.toNat_lt
        omega
      · rintro e w1 ⟨v2, rfl, hp2, hk2, hn2⟩
        have hbe : beAll 1 ([x0, x1, x2, x3, x4, x5].map UInt8.toNat) = [x0, x1, x2, x3, x4, x5] := by simp [beAll, beM, List.range_succ]
        rw [hbe] at hp2
        have HP2 := Lib.hid hp2
        have HK2 := Lib.hid hk2
        have HN2 := Lib.hid hn2
        clear hp2 hk2 hn2 hbe
        go_wp2
        go_roundw
        case rel =>
          refine ⟨k + 1, v2, by omega, by go_num, ?_, ?_, ?_⟩
          · rw [List.take_succ_eq_append_getElem hkl, List.flatten_append, HM.out, ← List.append_assoc]
            simpa using HP2.out
          · exact HK.out.trans (((Kept.refl (foot g v') wr).alloc _).same HK2.out) (foot_newer HN.out)
          · exact HN.out.trans HN2.out (by have := HK.out.size; simp; omega)
        case measure => simp [intOf]; omega
    · have hfull : ms.take k = ms := List.take_of_length_le (by rw [hs.1]; omega)
      rw [hfull] at hp
      have HP2 := Lib.hid hp
      have HK2 := Lib.hid hkp
      have HN2 := Lib.hid hnw
      clear hp hkp hnw hfull
      go_wp2
      go_ret
      exact ⟨_, rfl, HP2.out, HK2.out, HN2.out⟩
end Go.Proofs.Ytbkjobmjapbmpaa
