/- tolllaw02.MacKinds: the walk. -/
import Derived.Test.YtjfffddaiefggabDoorMacT
import Derived.Deep.RegionHeld3
namespace Go.Proofs.YtjfffddaiefggabDoor
open Go.RowKit
set_option linter.unusedVariables false

/-- Which kinds are groups'. -/
def grp (k : Int) : Bool := k == 2 || k == 3 || k == 4
theorem group_yes (k : Int) (w : World) : Calls Tryd.prog 33 #[.int .i64 k] w fun e w' => e = .returned (.bool (grp k)) ∧ w = w' := by
  cases h2 : (k == 2)
  · cases h3 : (k == 3)
    · go_enter Tryd.func33, Tryd.ntmps33
      go_wp2
      go_ret
      exact ⟨by simp [grp, h2, h3], rfl⟩
    · go_enter Tryd.func33, Tryd.ntmps33
      go_wp2
      go_ret
      exact ⟨by simp [grp, h2, h3], rfl⟩
  · go_enter Tryd.func33, Tryd.ntmps33
    go_wp2
    go_ret
    exact ⟨by simp [grp, h2], rfl⟩

theorem xor1 (a a1 : UInt8) (h : a1 = a ^^^ 1) : bits .xor .u8 (a.toNat : Int) 1 = (a1.toNat : Int) := by
  have := u8_xor_nat a.toNat 1 a.toNat_lt (by omega)
  rw [show ((1 : Nat) : Int) = 1 from rfl] at this
  rw [this, h, UInt8.toNat_xor]
  rfl
/-- What kinds come to: the kind and its number. -/
theorem kind_facts (a b c d e f : UInt8) : 1 ≤ kindL [a, b, c, d, e, f] ∧ kindL [a, b, c, d, e, f] ≤ 5 ∧ grp (kindL [a, b, c, d, e, f]) = (a.toNat % 2 == 1) ∧
    ((kindL [a, b, c, d, e, f] == 1) = ((numL [a, b, c, d, e, f] : Int) == 0)) ∧ ((kindL [a, b, c, d, e, f] == 2) = ((numL [a, b, c, d, e, f] : Int) == 281474976710655)) ∧ ((kindL [a, b, c, d, e, f] == 3) = ((numL [a, b, c, d, e, f] : Int) / 16 == 103282638848)) := by
  have hl0 : ([a, b, c, d, e, f] = ([0, 0, 0, 0, 0, 0] : List UInt8)) ↔ (a.toNat = 0 ∧ b.toNat = 0 ∧ c.toNat = 0 ∧ d.toNat = 0 ∧ e.toNat = 0 ∧ f.toNat = 0) := by
    simp [← UInt8.toNat_inj]
  have hlF : ([a, b, c, d, e, f] = ([255, 255, 255, 255, 255, 255] : List UInt8)) ↔ (a.toNat = 255 ∧ b.toNat = 255 ∧ c.toNat = 255 ∧ d.toNat = 255 ∧ e.toNat = 255 ∧ f.toNat = 255) := by
    simp [← UInt8.toNat_inj]
  have hr : rsvL [a, b, c, d, e, f] = true ↔ (a.toNat = 1 ∧ b.toNat = 128 ∧ c.toNat = 194 ∧ d.toNat = 0 ∧ e.toNat = 0 ∧ f.toNat < 16) := by
    simp [rsvL, ← UInt8.toNat_inj, and_assoc]
  have hn : numL [a, b, c, d, e, f] = ((((a.toNat * 256 + b.toNat) * 256 + c.toNat) * 256 + d.toNat) * 256 + e.toNat) * 256 + f.toNat := by
    simp [numL]
  have ha := a.toNat_lt
  have hb := b.toNat_lt
  have hc := c.toNat_lt
  have hd := d.toNat_lt
  have he := e.toNat_lt
  have hf := f.toNat_lt
  unfold kindL
  rw [hn]
  simp only [List.headD_cons]
  by_cases h0 : [a, b, c, d, e, f] = [0, 0, 0, 0, 0, 0]
  · rw [if_pos h0]
    rw [hl0] at h0
    refine ⟨by omega, by omega, ?_, ?_, ?_, ?_⟩ <;> (rw [Bool.eq_iff_iff]; first | (simp [grp]; omega) | (simp [grp]; done))
  · rw [if_neg h0]
    rw [hl0] at h0
    by_cases h1 : [a, b, c, d, e, f] = [255, 255, 255, 255, 255, 255]
    · rw [if_pos h1]
      rw [hlF] at h1
      refine ⟨by omega, by omega, ?_, ?_, ?_, ?_⟩ <;> (rw [Bool.eq_iff_iff]; first | (simp [grp]; omega) | (simp [grp]; done))
    · rw [if_neg h1]
      rw [hlF] at h1
      by_cases h2 : rsvL [a, b, c, d, e, f] = true
      · rw [if_pos h2]
        rw [hr] at h2
        refine ⟨by omega, by omega, ?_, ?_, ?_, ?_⟩ <;> (rw [Bool.eq_iff_iff]; first | (simp [grp]; omega) | (simp [grp]; done))
      · rw [if_neg h2]
        rw [hr] at h2
        by_cases h3 : a.toNat % 2 = 1
        · simp only [h3, ↓reduceIte]
          refine ⟨by omega, by omega, ?_, ?_, ?_, ?_⟩ <;> (rw [Bool.eq_iff_iff]; first | (simp [grp]; omega) | (simp [grp]; done))
        · simp only [h3, ↓reduceIte]
          refine ⟨by omega, by omega, ?_, ?_, ?_, ?_⟩ <;> (rw [Bool.eq_iff_iff]; first | (simp [grp]; omega) | (simp [grp]; done))
theorem odd_flip (a a1 : UInt8) (h : a1 = a ^^^ 1) : (a1.toNat % 2 == 1) = !(a.toNat % 2 == 1) := by
  subst h
  have h := (by decide +kernel : ∀ n : Fin 256, ((n.val ^^^ 1) % 2 == 1) = !(n.val % 2 == 1)) ⟨a.toNat, a.toNat_lt⟩
  rw [UInt8.toNat_xor]
  exact h

set_option maxRecDepth 100000 in
set_option maxHeartbeats 8000000 in
theorem kinds_all (a b c d e f : UInt8) (w : World) :
    Calls Tryd.prog 7 #[.agg #[.int .u8 (a.toNat : Int), .int .u8 (b.toNat : Int), .int .u8 (c.toNat : Int), .int .u8 (d.toNat : Int), .int .u8 (e.toNat : Int), .int .u8 (f.toNat : Int)]] w fun r w' => r = .returned (.bool true) ∧ Below w.heap.size w w' := by
  obtain ⟨a1, ha1⟩ : ∃ a1, a1 = a ^^^ 1 := ⟨_, rfl⟩
  have hxor := xor1 a a1 ha1
  obtain ⟨k1, k5, kg, kn0, knF, knR⟩ := kind_facts a b c d e f
  obtain ⟨_, _, jg, _, _, _⟩ := kind_facts a1 b c d e f
  rw [odd_flip a a1 ha1, ← kg] at jg
  have hK : ∀ w, Calls Tryd.prog 15 #[.agg #[.int .u8 (a.toNat : Int), .int .u8 (b.toNat : Int), .int .u8 (c.toNat : Int), .int .u8 (d.toNat : Int), .int .u8 (e.toNat : Int), .int .u8 (f.toNat : Int)]] w fun r w' => r = .returned (.int .i64 (kindL [a, b, c, d, e, f])) ∧ Kept Nil w w' := Kind_yes a b c d e f
  have hJ : ∀ w, Calls Tryd.prog 15 #[.agg #[.int .u8 (a1.toNat : Int), .int .u8 (b.toNat : Int), .int .u8 (c.toNat : Int), .int .u8 (d.toNat : Int), .int .u8 (e.toNat : Int), .int .u8 (f.toNat : Int)]] w fun r w' => r = .returned (.int .i64 (kindL [a1, b, c, d, e, f])) ∧ Kept Nil w w' := Kind_yes a1 b c d e f
  have hG : ∀ w, Calls Tryd.prog 17 #[.agg #[.int .u8 (a.toNat : Int), .int .u8 (b.toNat : Int), .int .u8 (c.toNat : Int), .int .u8 (d.toNat : Int), .int .u8 (e.toNat : Int), .int .u8 (f.toNat : Int)]] w fun r w' => r = .returned (.bool (grp (kindL [a, b, c, d, e, f]))) ∧ Kept Nil w w' := fun w => by rw [kg]; exact IsGroup_yes a b c d e f w
  have hN : ∀ w, Calls Tryd.prog 11 #[.agg #[.int .u8 (a.toNat : Int), .int .u8 (b.toNat : Int), .int .u8 (c.toNat : Int), .int .u8 (d.toNat : Int), .int .u8 (e.toNat : Int), .int .u8 (f.toNat : Int)]] w fun r w' => r = .returned (.int .u64 (numL [a, b, c, d, e, f] : Int)) ∧ Kept Nil w w' := fun w => (Number_yes a b c d e f w).mono fun r w' ⟨h1, h2⟩ => ⟨h1, by rw [h2]; exact (Kept.refl Nil w).alloc _⟩
  have hq0 : (0 : Int) ≤ (numL [a, b, c, d, e, f] : Int) := by omega
  have hq1 := numL_lt [a, b, c, d, e, f]
  simp only [List.length_cons, List.length_nil, Nat.reduceAdd, Nat.reducePow] at hq1
  have hq2 : (numL [a, b, c, d, e, f] : Int) < 281474976710656 := by omega
  generalize (numL [a, b, c, d, e, f] : Int) = N at *
  generalize kindL [a, b, c, d, e, f] = K at *
  generalize kindL [a1, b, c, d, e, f] = J at *
  have HK := Lib.hid hK
  have HJ := Lib.hid hJ
  have HG := Lib.hid hG
  have HN := Lib.hid hN
  have HGR := Lib.hid group_yes
  clear hK hJ hG hN kg hq1 ha1
  go_enter Tryd.func7, Tryd.ntmps7
  go_wp2
  obtain ⟨W, hW⟩ : ∃ W, W = ((w.alloc (.cells #[.int .u8 (a.toNat : Int), .int .u8 (b.toNat : Int), .int .u8 (c.toNat : Int), .int .u8 (d.toNat : Int), .int .u8 (e.toNat : Int), .int .u8 (f.toNat : Int)] 22)).alloc (.cells #[.int .u8 (a.toNat : Int), .int .u8 (b.toNat : Int), .int .u8 (c.toNat : Int), .int .u8 (d.toNat : Int), .int .u8 (e.toNat : Int), .int .u8 (f.toNat : Int)] 24)).alloc (.cells #[.int .u8 (a1.toNat : Int), .int .u8 (b.toNat : Int), .int .u8 (c.toNat : Int), .int .u8 (d.toNat : Int), .int .u8 (e.toNat : Int), .int .u8 (f.toNat : Int)] 24) := ⟨_, rfl⟩
  rw [← hW]
  have hb3 : Blo W (w.heap.size + 1) 24 #[.int .u8 (a.toNat : Int), .int .u8 (b.toNat : Int), .int .u8 (c.toNat : Int), .int .u8 (d.toNat : Int), .int .u8 (e.toNat : Int), .int .u8 (f.toNat : Int)] := by
    rw [hW]
    have h := (Blo.new (w.alloc (.cells #[.int .u8 (a.toNat : Int), .int .u8 (b.toNat : Int), .int .u8 (c.toNat : Int), .int .u8 (d.toNat : Int), .int .u8 (e.toNat : Int), .int .u8 (f.toNat : Int)] 22)) 24 #[.int .u8 (a.toNat : Int), .int .u8 (b.toNat : Int), .int .u8 (c.toNat : Int), .int .u8 (d.toNat : Int), .int .u8 (e.toNat : Int), .int .u8 (f.toNat : Int)]).alloc (.cells #[.int .u8 (a1.toNat : Int), .int .u8 (b.toNat : Int), .int .u8 (c.toNat : Int), .int .u8 (d.toNat : Int), .int .u8 (e.toNat : Int), .int .u8 (f.toNat : Int)] 24)
    rw [World.size_alloc] at h
    exact h
  have hb4 : Blo W (w.heap.size + 1 + 1) 24 #[.int .u8 (a1.toNat : Int), .int .u8 (b.toNat : Int), .int .u8 (c.toNat : Int), .int .u8 (d.toNat : Int), .int .u8 (e.toNat : Int), .int .u8 (f.toNat : Int)] := by
    rw [hW]
    have h := Blo.new ((w.alloc (.cells #[.int .u8 (a.toNat : Int), .int .u8 (b.toNat : Int), .int .u8 (c.toNat : Int), .int .u8 (d.toNat : Int), .int .u8 (e.toNat : Int), .int .u8 (f.toNat : Int)] 22)).alloc (.cells #[.int .u8 (a.toNat : Int), .int .u8 (b.toNat : Int), .int .u8 (c.toNat : Int), .int .u8 (d.toNat : Int), .int .u8 (e.toNat : Int), .int .u8 (f.toNat : Int)] 24)) 24 #[.int .u8 (a1.toNat : Int), .int .u8 (b.toNat : Int), .int .u8 (c.toNat : Int), .int .u8 (d.toNat : Int), .int .u8 (e.toNat : Int), .int .u8 (f.toNat : Int)]
    rw [World.size_alloc, World.size_alloc] at h
    exact h
  have KW : Hid (Kept Nil w W) := by unfold Hid; rw [hW]; exact (((Kept.refl Nil w).alloc _).alloc _).alloc _
  clear hW
  generalize w.heap.size + 1 + 1 = g4 at *
  generalize w.heap.size + 1 = g3 at *
  have c0 := hb3.cell 0
  have c1 := hb3.cell 1
  have c2 := hb3.cell 2
  have c3 := hb3.cell 3
  have c4 := hb3.cell 4
  have c5 := hb3.cell 5
  have d0 := hb4.cell 0
  have d1 := hb4.cell 1
  have d2 := hb4.cell 2
  have d3 := hb4.cell 3
  have d4 := hb4.cell 4
  have d5 := hb4.cell 5
  simp at c0 d0 c1 d1 c2 d2 c3 d3 c4 d4 c5 d5
  clear hb3 hb4 hxor
  go_region_held3 (fun w' => w'.cell? ⟨g3, 0, none⟩ = some (.int .u8 (a.toNat : Int)) ∧ w'.cell? ⟨g3, 1, none⟩ = some (.int .u8 (b.toNat : Int)) ∧ w'.cell? ⟨g3, 2, none⟩ = some (.int .u8 (c.toNat : Int)) ∧ w'.cell? ⟨g3, 3, none⟩ = some (.int .u8 (d.toNat : Int)) ∧ w'.cell? ⟨g3, 4, none⟩ = some (.int .u8 (e.toNat : Int)) ∧ w'.cell? ⟨g3, 5, none⟩ = some (.int .u8 (f.toNat : Int)) ∧ w'.cell? ⟨g4, 0, none⟩ = some (.int .u8 (a1.toNat : Int)) ∧ w'.cell? ⟨g4, 1, none⟩ = some (.int .u8 (b.toNat : Int)) ∧ w'.cell? ⟨g4, 2, none⟩ = some (.int .u8 (c.toNat : Int)) ∧ w'.cell? ⟨g4, 3, none⟩ = some (.int .u8 (d.toNat : Int)) ∧ w'.cell? ⟨g4, 4, none⟩ = some (.int .u8 (e.toNat : Int)) ∧ w'.cell? ⟨g4, 5, none⟩ = some (.int .u8 (f.toNat : Int)))
    (first
      | go_keep
      | (go_split_ands
         refine ⟨hk.cell (by assumption) (fun hf => hf), hk.cell (by assumption) (fun hf => hf), hk.cell (by assumption) (fun hf => hf), hk.cell (by assumption) (fun hf => hf), hk.cell (by assumption) (fun hf => hf), hk.cell (by assumption) (fun hf => hf), hk.cell (by assumption) (fun hf => hf), hk.cell (by assumption) (fun hf => hf), hk.cell (by assumption) (fun hf => hf), hk.cell (by assumption) (fun hf => hf), hk.cell (by assumption) (fun hf => hf), hk.cell (by assumption) (fun hf => hf)⟩))
    (first
      | (go_at_call 15; (with_reducible refine (HK.out _).mono ?_); rintro r w1 ⟨rfl, hk⟩; have K1 := Lib.hid hk)
      | (go_at_call 15; (with_reducible refine (HJ.out _).mono ?_); rintro r w2 ⟨rfl, hk⟩; have K2 := Lib.hid hk))
  have KK : Kept Nil W w2 := ((Kept.refl Nil W).drew.then K1.out).then K2.out
  have KT := Lib.hid (KW.out.then KK)
  have e0 := KK.cell c0 (fun hf => hf)
  have e1 := KK.cell c1 (fun hf => hf)
  have e2 := KK.cell c2 (fun hf => hf)
  have e3 := KK.cell c3 (fun hf => hf)
  have e4 := KK.cell c4 (fun hf => hf)
  have e5 := KK.cell c5 (fun hf => hf)
  clear c0 c1 c2 c3 c4 c5 d0 d1 d2 d3 d4 d5 KK K1 K2 KW HK HJ
  rename_i hk1' _
  clear hk hk1'
  go_wp2_with fail
  rcases (show K = 1 ∨ K = 2 ∨ K = 3 ∨ K = 4 ∨ K = 5 by omega) with rfl | rfl | rfl | rfl | rfl
  · have n0 : (N == 0) = true := kn0.symm
    have nF : (N == 281474976710655) = false := knF.symm
    have nR : (N / 16 == 103282638848) = false := knR.symm
    have hG' : ∀ w, Calls Tryd.prog 17 #[.agg #[.int .u8 (a.toNat : Int), .int .u8 (b.toNat : Int), .int .u8 (c.toNat : Int), .int .u8 (d.toNat : Int), .int .u8 (e.toNat : Int), .int .u8 (f.toNat : Int)]] w fun r w' => r = .returned (.bool false) ∧ Kept Nil w w' := HG.out
    have hA' : ∀ w, Calls Tryd.prog 33 #[.int .i64 1] w fun r w' => r = .returned (.bool false) ∧ w = w' := HGR.out 1
    have hB' : ∀ w, Calls Tryd.prog 33 #[.int .i64 J] w fun r w' => r = .returned (.bool true) ∧ w = w' := by
      have h := HGR.out J
      rw [jg] at h
      exact h
    have HG' := Lib.hid hG'
    have HA' := Lib.hid hA'
    have HB' := Lib.hid hB'
    clear hG' hA' hB' kn0 knF knR jg HG HGR
    go_region_held3 (fun w' => w'.cell? ⟨g3, 0, none⟩ = some (.int .u8 (a.toNat : Int)) ∧ w'.cell? ⟨g3, 1, none⟩ = some (.int .u8 (b.toNat : Int)) ∧ w'.cell? ⟨g3, 2, none⟩ = some (.int .u8 (c.toNat : Int)) ∧ w'.cell? ⟨g3, 3, none⟩ = some (.int .u8 (d.toNat : Int)) ∧ w'.cell? ⟨g3, 4, none⟩ = some (.int .u8 (e.toNat : Int)) ∧ w'.cell? ⟨g3, 5, none⟩ = some (.int .u8 (f.toNat : Int)))
      (first
        | go_keep
        | (go_split_ands
           refine ⟨hk.cell (by assumption) (fun hf => hf), hk.cell (by assumption) (fun hf => hf), hk.cell (by assumption) (fun hf => hf), hk.cell (by assumption) (fun hf => hf), hk.cell (by assumption) (fun hf => hf), hk.cell (by assumption) (fun hf => hf)⟩))
      (first
        | (go_at_call 33; (with_reducible refine (HA'.out _).mono ?_); rintro r w' ⟨rfl, rfl⟩)
        | (go_at_call 33; (with_reducible refine (HB'.out _).mono ?_); rintro r w' ⟨rfl, rfl⟩)
        | (go_at_call 17; (with_reducible refine (HG'.out _).mono ?_); rintro r wn ⟨rfl, hk⟩; have KT := Lib.hid (show Kept Nil w wn by first | exact KT.out.then hk | exact KT.out.drew.then hk))
        | (go_at_call 11; (with_reducible refine (HN.out _).mono ?_); rintro r wn ⟨rfl, hk⟩; have KT := Lib.hid (show Kept Nil w wn by first | exact KT.out.then hk | exact KT.out.drew.then hk))
        | (go_at_call 26; (with_reducible refine (tells_yes _).mono ?_); rintro r wn ⟨rfl, hk⟩; have KT := Lib.hid (show Kept Nil w wn by first | exact KT.out.then hk | exact KT.out.drew.then hk)))
    all_goals
      go_wp2
      go_ret
      exact ⟨rfl, KT.out.below (Nat.le_refl _) (fun k hf => hf.elim)⟩
  · have n0 : (N == 0) = false := kn0.symm
    have nF : (N == 281474976710655) = true := knF.symm
    have nR : (N / 16 == 103282638848) = false := knR.symm
    have hG' : ∀ w, Calls Tryd.prog 17 #[.agg #[.int .u8 (a.toNat : Int), .int .u8 (b.toNat : Int), .int .u8 (c.toNat : Int), .int .u8 (d.toNat : Int), .int .u8 (e.toNat : Int), .int .u8 (f.toNat : Int)]] w fun r w' => r = .returned (.bool true) ∧ Kept Nil w w' := HG.out
    have hA' : ∀ w, Calls Tryd.prog 33 #[.int .i64 2] w fun r w' => r = .returned (.bool true) ∧ w = w' := HGR.out 2
    have hB' : ∀ w, Calls Tryd.prog 33 #[.int .i64 J] w fun r w' => r = .returned (.bool false) ∧ w = w' := by
      have h := HGR.out J
      rw [jg] at h
      exact h
    have HG' := Lib.hid hG'
    have HA' := Lib.hid hA'
    have HB' := Lib.hid hB'
    clear hG' hA' hB' kn0 knF knR jg HG HGR
    go_region_held3 (fun w' => w'.cell? ⟨g3, 0, none⟩ = some (.int .u8 (a.toNat : Int)) ∧ w'.cell? ⟨g3, 1, none⟩ = some (.int .u8 (b.toNat : Int)) ∧ w'.cell? ⟨g3, 2, none⟩ = some (.int .u8 (c.toNat : Int)) ∧ w'.cell? ⟨g3, 3, none⟩ = some (.int .u8 (d.toNat : Int)) ∧ w'.cell? ⟨g3, 4, none⟩ = some (.int .u8 (e.toNat : Int)) ∧ w'.cell? ⟨g3, 5, none⟩ = some (.int .u8 (f.toNat : Int)))
      (first
        | go_keep
        | (go_split_ands
           refine ⟨hk.cell (by assumption) (fun hf => hf), hk.cell (by assumption) (fun hf => hf), hk.cell (by assumption) (fun hf => hf), hk.cell (by assumption) (fun hf => hf), hk.cell (by assumption) (fun hf => hf), hk.cell (by assumption) (fun hf => hf)⟩))
      (first
        | (go_at_call 33; (with_reducible refine (HA'.out _).mono ?_); rintro r w' ⟨rfl, rfl⟩)
        | (go_at_call 33; (with_reducible refine (HB'.out _).mono ?_); rintro r w' ⟨rfl, rfl⟩)
        | (go_at_call 17; (with_reducible refine (HG'.out _).mono ?_); rintro r wn ⟨rfl, hk⟩; have KT := Lib.hid (show Kept Nil w wn by first | exact KT.out.then hk | exact KT.out.drew.then hk))
        | (go_at_call 11; (with_reducible refine (HN.out _).mono ?_); rintro r wn ⟨rfl, hk⟩; have KT := Lib.hid (show Kept Nil w wn by first | exact KT.out.then hk | exact KT.out.drew.then hk))
        | (go_at_call 26; (with_reducible refine (tells_yes _).mono ?_); rintro r wn ⟨rfl, hk⟩; have KT := Lib.hid (show Kept Nil w wn by first | exact KT.out.then hk | exact KT.out.drew.then hk)))
    all_goals
      go_wp2
      go_ret
      exact ⟨rfl, KT.out.below (Nat.le_refl _) (fun k hf => hf.elim)⟩
  · have n0 : (N == 0) = false := kn0.symm
    have nF : (N == 281474976710655) = false := knF.symm
    have nR : (N / 16 == 103282638848) = true := knR.symm
    have hG' : ∀ w, Calls Tryd.prog 17 #[.agg #[.int .u8 (a.toNat : Int), .int .u8 (b.toNat : Int), .int .u8 (c.toNat : Int), .int .u8 (d.toNat : Int), .int .u8 (e.toNat : Int), .int .u8 (f.toNat : Int)]] w fun r w' => r = .returned (.bool true) ∧ Kept Nil w w' := HG.out
    have hA' : ∀ w, Calls Tryd.prog 33 #[.int .i64 3] w fun r w' => r = .returned (.bool true) ∧ w = w' := HGR.out 3
    have hB' : ∀ w, Calls Tryd.prog 33 #[.int .i64 J] w fun r w' => r = .returned (.bool false) ∧ w = w' := by
      have h := HGR.out J
      rw [jg] at h
      exact h
    have HG' := Lib.hid hG'
    have HA' := Lib.hid hA'
    have HB' := Lib.hid hB'
    clear hG' hA' hB' kn0 knF knR jg HG HGR
    go_region_held3 (fun w' => w'.cell? ⟨g3, 0, none⟩ = some (.int .u8 (a.toNat : Int)) ∧ w'.cell? ⟨g3, 1, none⟩ = some (.int .u8 (b.toNat : Int)) ∧ w'.cell? ⟨g3, 2, none⟩ = some (.int .u8 (c.toNat : Int)) ∧ w'.cell? ⟨g3, 3, none⟩ = some (.int .u8 (d.toNat : Int)) ∧ w'.cell? ⟨g3, 4, none⟩ = some (.int .u8 (e.toNat : Int)) ∧ w'.cell? ⟨g3, 5, none⟩ = some (.int .u8 (f.toNat : Int)))
      (first
        | go_keep
        | (go_split_ands
           refine ⟨hk.cell (by assumption) (fun hf => hf), hk.cell (by assumption) (fun hf => hf), hk.cell (by assumption) (fun hf => hf), hk.cell (by assumption) (fun hf => hf), hk.cell (by assumption) (fun hf => hf), hk.cell (by assumption) (fun hf => hf)⟩))
      (first
        | (go_at_call 33; (with_reducible refine (HA'.out _).mono ?_); rintro r w' ⟨rfl, rfl⟩)
        | (go_at_call 33; (with_reducible refine (HB'.out _).mono ?_); rintro r w' ⟨rfl, rfl⟩)
        | (go_at_call 17; (with_reducible refine (HG'.out _).mono ?_); rintro r wn ⟨rfl, hk⟩; have KT := Lib.hid (show Kept Nil w wn by first | exact KT.out.then hk | exact KT.out.drew.then hk))
        | (go_at_call 11; (with_reducible refine (HN.out _).mono ?_); rintro r wn ⟨rfl, hk⟩; have KT := Lib.hid (show Kept Nil w wn by first | exact KT.out.then hk | exact KT.out.drew.then hk))
        | (go_at_call 26; (with_reducible refine (tells_yes _).mono ?_); rintro r wn ⟨rfl, hk⟩; have KT := Lib.hid (show Kept Nil w wn by first | exact KT.out.then hk | exact KT.out.drew.then hk)))
    all_goals
      go_wp2
      go_ret
      exact ⟨rfl, KT.out.below (Nat.le_refl _) (fun k hf => hf.elim)⟩
  · have n0 : (N == 0) = false := kn0.symm
    have nF : (N == 281474976710655) = false := knF.symm
    have nR : (N / 16 == 103282638848) = false := knR.symm
    have hG' : ∀ w, Calls Tryd.prog 17 #[.agg #[.int .u8 (a.toNat : Int), .int .u8 (b.toNat : Int), .int .u8 (c.toNat : Int), .int .u8 (d.toNat : Int), .int .u8 (e.toNat : Int), .int .u8 (f.toNat : Int)]] w fun r w' => r = .returned (.bool true) ∧ Kept Nil w w' := HG.out
    have hA' : ∀ w, Calls Tryd.prog 33 #[.int .i64 4] w fun r w' => r = .returned (.bool true) ∧ w = w' := HGR.out 4
    have hB' : ∀ w, Calls Tryd.prog 33 #[.int .i64 J] w fun r w' => r = .returned (.bool false) ∧ w = w' := by
      have h := HGR.out J
      rw [jg] at h
      exact h
    have HG' := Lib.hid hG'
    have HA' := Lib.hid hA'
    have HB' := Lib.hid hB'
    clear hG' hA' hB' kn0 knF knR jg HG HGR
    go_region_held3 (fun w' => w'.cell? ⟨g3, 0, none⟩ = some (.int .u8 (a.toNat : Int)) ∧ w'.cell? ⟨g3, 1, none⟩ = some (.int .u8 (b.toNat : Int)) ∧ w'.cell? ⟨g3, 2, none⟩ = some (.int .u8 (c.toNat : Int)) ∧ w'.cell? ⟨g3, 3, none⟩ = some (.int .u8 (d.toNat : Int)) ∧ w'.cell? ⟨g3, 4, none⟩ = some (.int .u8 (e.toNat : Int)) ∧ w'.cell? ⟨g3, 5, none⟩ = some (.int .u8 (f.toNat : Int)))
      (first
        | go_keep
        | (go_split_ands
           refine ⟨hk.cell (by assumption) (fun hf => hf), hk.cell (by assumption) (fun hf => hf), hk.cell (by assumption) (fun hf => hf), hk.cell (by assumption) (fun hf => hf), hk.cell (by assumption) (fun hf => hf), hk.cell (by assumption) (fun hf => hf)⟩))
      (first
        | (go_at_call 33; (with_reducible refine (HA'.out _).mono ?_); rintro r w' ⟨rfl, rfl⟩)
        | (go_at_call 33; (with_reducible refine (HB'.out _).mono ?_); rintro r w' ⟨rfl, rfl⟩)
        | (go_at_call 17; (with_reducible refine (HG'.out _).mono ?_); rintro r wn ⟨rfl, hk⟩; have KT := Lib.hid (show Kept Nil w wn by first | exact KT.out.then hk | exact KT.out.drew.then hk))
        | (go_at_call 11; (with_reducible refine (HN.out _).mono ?_); rintro r wn ⟨rfl, hk⟩; have KT := Lib.hid (show Kept Nil w wn by first | exact KT.out.then hk | exact KT.out.drew.then hk))
        | (go_at_call 26; (with_reducible refine (tells_yes _).mono ?_); rintro r wn ⟨rfl, hk⟩; have KT := Lib.hid (show Kept Nil w wn by first | exact KT.out.then hk | exact KT.out.drew.then hk)))
    all_goals
      go_wp2
      go_ret
      exact ⟨rfl, KT.out.below (Nat.le_refl _) (fun k hf => hf.elim)⟩
  · have n0 : (N == 0) = false := kn0.symm
    have nF : (N == 281474976710655) = false := knF.symm
    have nR : (N / 16 == 103282638848) = false := knR.symm
    have hG' : ∀ w, Calls Tryd.prog 17 #[.agg #[.int .u8 (a.toNat : Int), .int .u8 (b.toNat : Int), .int .u8 (c.toNat : Int), .int .u8 (d.toNat : Int), .int .u8 (e.toNat : Int), .int .u8 (f.toNat : Int)]] w fun r w' => r = .returned (.bool false) ∧ Kept Nil w w' := HG.out
    have hA' : ∀ w, Calls Tryd.prog 33 #[.int .i64 5] w fun r w' => r = .returned (.bool false) ∧ w = w' := HGR.out 5
    have hB' : ∀ w, Calls Tryd.prog 33 #[.int .i64 J] w fun r w' => r = .returned (.bool true) ∧ w = w' := by
      have h := HGR.out J
      rw [jg] at h
      exact h
    have HG' := Lib.hid hG'
    have HA' := Lib.hid hA'
    have HB' := Lib.hid hB'
    clear hG' hA' hB' kn0 knF knR jg HG HGR
    go_region_held3 (fun w' => w'.cell? ⟨g3, 0, none⟩ = some (.int .u8 (a.toNat : Int)) ∧ w'.cell? ⟨g3, 1, none⟩ = some (.int .u8 (b.toNat : Int)) ∧ w'.cell? ⟨g3, 2, none⟩ = some (.int .u8 (c.toNat : Int)) ∧ w'.cell? ⟨g3, 3, none⟩ = some (.int .u8 (d.toNat : Int)) ∧ w'.cell? ⟨g3, 4, none⟩ = some (.int .u8 (e.toNat : Int)) ∧ w'.cell? ⟨g3, 5, none⟩ = some (.int .u8 (f.toNat : Int)))
      (first
        | go_keep
        | (go_split_ands
           refine ⟨hk.cell (by assumption) (fun hf => hf), hk.cell (by assumption) (fun hf => hf), hk.cell (by assumption) (fun hf => hf), hk.cell (by assumption) (fun hf => hf), hk.cell (by assumption) (fun hf => hf), hk.cell (by assumption) (fun hf => hf)⟩))
      (first
        | (go_at_call 33; (with_reducible refine (HA'.out _).mono ?_); rintro r w' ⟨rfl, rfl⟩)
        | (go_at_call 33; (with_reducible refine (HB'.out _).mono ?_); rintro r w' ⟨rfl, rfl⟩)
        | (go_at_call 17; (with_reducible refine (HG'.out _).mono ?_); rintro r wn ⟨rfl, hk⟩; have KT := Lib.hid (show Kept Nil w wn by first | exact KT.out.then hk | exact KT.out.drew.then hk))
        | (go_at_call 11; (with_reducible refine (HN.out _).mono ?_); rintro r wn ⟨rfl, hk⟩; have KT := Lib.hid (show Kept Nil w wn by first | exact KT.out.then hk | exact KT.out.drew.then hk))
        | (go_at_call 26; (with_reducible refine (tells_yes _).mono ?_); rintro r wn ⟨rfl, hk⟩; have KT := Lib.hid (show Kept Nil w wn by first | exact KT.out.then hk | exact KT.out.drew.then hk)))
    all_goals
      go_wp2
      go_ret
      exact ⟨rfl, KT.out.below (Nat.le_refl _) (fun k hf => hf.elim)⟩
end Go.Proofs.YtjfffddaiefggabDoor
