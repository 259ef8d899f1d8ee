/- tollref07: contract of Seal. -/
import Derived.Test.YthjbabkmjmfmjaaDoorRtG
namespace Go.Proofs.YthjbabkmjmfmjaaDoor
open Go.RowKit Go.Sort
set_option linter.unusedVariables false

/-- Two bytes stored, one behind the other: what the walk asks, and what is left. -/
theorem two_put {W : World} {B r n c : Nat} {l : List UInt8} (h : W.ownsRow B 5 1 (.slice (some ⟨r, 0, none⟩) n c) n (bys l)) (k : Nat) (hk : k + 2 ≤ n) (a b : UInt8) (z y : Int) (hz : z = (a.toNat : Int)) (hy : y = (b.toNat : Int)) :
    (∃ p : Int, W.cell? ⟨r, k, none⟩ = some (.int .u8 p)) ∧ W.frozen? ⟨r, k, none⟩ = false ∧ (∃ p : Int, (W.setCell ⟨r, k, none⟩ (.int .u8 z)).cell? ⟨r, k + 1, none⟩ = some (.int .u8 p)) ∧ (W.setCell ⟨r, k, none⟩ (.int .u8 z)).frozen? ⟨r, k + 1, none⟩ = false ∧
    ((W.setCell ⟨r, k, none⟩ (.int .u8 z)).setCell ⟨r, k + 1, none⟩ (.int .u8 y)).ownsRow B 5 1 (.slice (some ⟨r, 0, none⟩) n c) n (bys ((l.set k a).set (k + 1) b)) := by
  subst hz hy
  have hl : l.length = n := by have := h.1; rw [bys_len] at this; simpa using this
  have a0 := h.cellAt k (by omega)
  have f0 := h.frozenAt k
  have s0 := h.stored k (.int .u8 (a.toNat : Int))
  have o0 := s0.1
  rw [bys_set] at o0
  have a1 := o0.cellAt (k + 1) (by omega)
  have f1 := o0.frozenAt (k + 1)
  have s1 := o0.stored (k + 1) (.int .u8 (b.toNat : Int))
  have o1 := s1.1
  rw [bys_set] at o1
  have e0 : (bys l)[k]? = some (.int .u8 ((l[k]'(by omega)).toNat : Int)) := by simp [bys, show k < l.length by omega]
  have e1 : (bys (l.set k a))[k + 1]? = some (.int .u8 ((l[k + 1]'(by omega)).toNat : Int)) := by
    simp [bys, show k + 1 < l.length by omega]
  rw [e0] at a0
  rw [e1] at a1
  exact ⟨⟨_, a0⟩, f0, ⟨_, a1⟩, f1, o1⟩
theorem put_kept {w W : World} {r k : Nat} {u x : Value} (h : Kept Nil w W) (hr : w.heap.size ≤ r) : Kept Nil w ((W.setCell ⟨r, k, none⟩ u).setCell ⟨r, k + 1, none⟩ x) := (h.setCell (fun hl => by simp at hl; omega) _).setCell (fun hl => by simp at hl; omega) _
theorem own_slice {w : World} {B n : Nat} {v : Value} {l : List UInt8} (h : w.ownsRow B 5 1 v n (bys l)) (hn : 0 < n) : ∃ r c, v = .slice (some ⟨r, 0, none⟩) n c ∧ B ≤ r := by
  rcases h.2 with ⟨e, e'⟩ | ⟨g', cap, cur, e, hb, _⟩
  · omega
  · exact ⟨g', cap, e, hb⟩
def SealQ (w : World) (e : Ending) (w' : World) (r : List UInt8 × Int) : Prop := ∃ v, e = .returned (.tuple #[v, .int .i64 r.2]) ∧ Made w w' v r.1
theorem sealQ_none {w w' : World} {r : List UInt8 × Int} {er : Int} (h : r = ([], er)) (hk : Kept Nil w w') : SealQ w (.returned (.tuple #[.slice none 0 0, .int .i64 er])) w' r := by
  subst h
  exact ⟨_, rfl, World.ownsRow_nil _ _ _ _, hk⟩
set_option maxRecDepth 100000 in
set_option maxHeartbeats 8000000 in
theorem qseal6 (s d : Nat) (hs : s < 4294967296) (hd : d < 4294967296) (A : Option Addr) (n c : Nat) (l : List UInt8) (w : World) (h : Byt w A n c l) (hn : n ≤ 1099511627776) :
    Calls Tryd.prog 17 #[.int .u32 (s : Int), .int .u32 (d : Int), .int .i64 6, .slice A n c] w fun e w' => SealQ w e w' (sealM s d 6 l) := by
  have hl := h.1
  have HB := Lib.hid h
  have HL := Lib.hid hl
  have HSE := Lib.hid (show sealM s d 6 l = if 65535 < n then ([], 1) else if n < 16 + 2 then ([], 4) else (l.take (atM 6) ++ (beM 2 (laidM 6 (sumM (allB s d 6 (bareM 6 l)))) ++ l.drop (atM 6 + 2)), 0) by
    unfold sealM
    rw [hl, show atM 6 = 16 from rfl]
    simp)
  obtain ⟨i0, hi, hz0, hz1, hz2⟩ := info_parts Tryd.infb
  clear h hl
  by_cases hb : 65535 < n
  · have hb' : (65535 : Int) < (n : Int) := by omega
    have HR := Lib.hid (show sealM s d 6 l = ([], 1) by rw [HSE.out, if_pos hb])
    clear hb HSE
    go_enter Tryd.func17, Tryd.ntmps17
    go_wp2_with (fail)
    go_ret2
    exact sealQ_none HR.out (Kept.refl _ _)
  · have hb' : ¬ (65535 : Int) < (n : Int) := by omega
    by_cases ha : n < 16 + 2
    · have ha' : (n : Int) < 16 + 2 := by omega
      have ha2 : (n : Int) < 18 → True := fun _ => trivial
      have HR := Lib.hid (show sealM s d 6 l = ([], 4) by rw [HSE.out, if_neg hb, if_pos ha])
      clear hb ha HSE
      go_enter Tryd.func17, Tryd.ntmps17
      go_wp2_with (fail)
      go_ret2
      exact sealQ_none HR.out (Kept.refl _ _)
    · have ha' : ¬ (n : Int) < 16 + 2 := by omega
      have HR := Lib.hid (show sealM s d 6 l = (l.take (atM 6) ++ (beM 2 (laidM 6 (sumM (allB s d 6 (bareM 6 l)))) ++ l.drop (atM 6 + 2)), 0) by rw [HSE.out, if_neg hb, if_neg ha])
      have HA := Lib.hid (show 16 + 2 ≤ n ∧ n ≤ 65535 by omega)
      have HAT := Lib.hid (show atM 6 + 2 ≤ l.length by rw [HL.out]; show 16 + 2 ≤ n; omega)
      have hlt0 : 16 < n := by omega
      have hlt1 : 16 + 1 < n := by omega
      clear hb ha HSE
      go_enter Tryd.func17, Tryd.ntmps17
      go_upto_region 10 with (first | (at_builtin; refine wpList_any rfl _ _ 22 rfl w.heap.size 5 i0 (.int .u8 0) Tryd.underlying22 hi hz0 hz1 hz2 rfl (.slice none 0 0) 0 [] rfl (World.ownsRow_nil _ _ _ _) A n c l rfl HB.out (by have := HA.out; omega) (Nat.le_refl _) ?_; intro v1 w1 hown hgrow hob; simp only [Act.put]) | fail)
      rw [Nat.zero_add, List.nil_append] at hown
      have HK1 := Lib.hid (show Kept Nil w w1 from (Kept.refl Nil w).grown hgrow (fun k hk => by cases hk))
      obtain ⟨r, c1, rfl, hr⟩ := own_slice hown (by omega)
      have HRR := Lib.hid hr
      have HZ2 := Lib.hid (two_put hown 16 (by omega) 0 0 0 0 rfl rfl)
      clear hown hgrow hob hr
      obtain ⟨⟨p0, q0⟩, q1, ⟨p1, q2⟩, q3, -⟩ := HZ2.out
      go_upto_region 12 with (fail)
      refine wp_nameE (fun W => Made w W (.slice (some ⟨r, 0, none⟩) n c1) (bareM 6 l)) ?_ ?_
      · refine ⟨?_, put_kept HK1.out HRR.out⟩
        have := HZ2.out.2.2.2.2
        rw [← bare_is 6 l HAT.out, List.length_set, List.length_set, HL.out]
        exact this
      clear q0 q1 q2 q3 HZ2 HK1
      rintro W2 hm2
      have HM2 := Lib.hid hm2
      have hb2 := hm2.1
      rw [bare_len _ _ HAT.out, HL.out] at hb2
      obtain ⟨A2, c2, e2, hy2, -⟩ := Byt.of_own hb2
      cases e2
      have HB2 := Lib.hid hy2
      have HBB2 := Lib.hid (HB.out.kept hm2.2 (fun _ _ hf => hf))
      clear hm2 hb2 hy2
      go_wp2_with (fail)
      refine (qall_yes s d 6 hs hd (by decide) _ n c1 (bareM 6 l) _ HB2.out HA.out.2).mono ?_
      rintro e w3 ⟨v3, rfl, hm3⟩
      obtain ⟨A3, c3, rfl, hb3, -⟩ := Byt.of_own hm3.1
      have HB3 := Lib.hid hb3
      have HM3 := Lib.hid (show Made w w3 (.slice (some ⟨r, 0, none⟩) n c1) (bareM 6 l) from ⟨own_kept HM2.out.1 hm3.2 (fun _ _ hf => hf), HM2.out.2.then hm3.2⟩)
      clear hm3 hb3 HM2 HB2 HBB2
      go_wp2_with (fail)
      refine (qwords_yes A3 _ c3 _ _ HB3.out (by unfold allB; rw [List.length_append, pseu_len, bare_len _ _ HAT.out, HL.out]; have := HA.out; omega)).mono ?_
      rintro e w4 ⟨rfl, rfl⟩
      have hle := accM_le (allB s d 6 (bareM 6 l))
      obtain ⟨M, hM⟩ : ∃ M, accM (allB s d 6 (bareM 6 l)) = M := ⟨_, rfl⟩
      obtain ⟨x, hxx⟩ : ∃ x, sumM (allB s d 6 (bareM 6 l)) = x := ⟨_, rfl⟩
      have hxM : (65535 : Int) - (M : Int) = (x : Int) := by rw [← hxx]; unfold sumM; rw [hM]; omega
      have hx : x < 65536 := by omega
      rw [hM]
      rw [hxx] at HR
      obtain ⟨y, hy⟩ : ∃ y, laidM 6 x = y := ⟨_, rfl⟩
      have hyl := laid_lt 6 x hx
      rw [hy] at HR hyl
      have w1 : IntKind.wrap .u8 ((y : Int) / 256) = (((UInt8.ofNat (y / 256)).toNat : Nat) : Int) := by rw [IntWalk.u8_in _ (by omega), UInt8.toNat_ofNat']; omega
      have w2 : IntKind.wrap .u8 ((y : Int) % 256) = (((UInt8.ofNat y).toNat : Nat) : Int) := by rw [IntWalk.u8_in _ (by omega), UInt8.toNat_ofNat']; omega
      have w1' : (y : Int) / 256 = (((UInt8.ofNat (y / 256)).toNat : Nat) : Int) := by rw [UInt8.toNat_ofNat']; omega
      have w2' : (y : Int) % 256 = (((UInt8.ofNat y).toNat : Nat) : Int) := by rw [UInt8.toNat_ofNat']; omega
      have hlay := laid_is 6 l y HAT.out
      obtain ⟨a, haa⟩ : ∃ a, UInt8.ofNat (y / 256) = a := ⟨_, rfl⟩
      obtain ⟨b, hbb⟩ : ∃ b, UInt8.ofNat y = b := ⟨_, rfl⟩
      rw [haa] at w1 w1' hlay
      rw [hbb] at w2 w2' hlay
      have ham : (a.toNat : Int) % 256 = (a.toNat : Int) := by have := a.toNat_lt; omega
      have hbm : (b.toNat : Int) % 256 = (b.toNat : Int) := by have := b.toNat_lt; omega
      have HLAY := Lib.hid hlay
      have hown3 := HM3.out.1
      rw [bare_len _ _ HAT.out, HL.out] at hown3
      have HZ3 := Lib.hid (two_put hown3 16 (by omega) a b _ _ rfl rfl)
      obtain ⟨⟨p0, q0⟩, q1, ⟨p1, q2⟩, q3, -⟩ := HZ3.out
      have HF := Lib.hid (show Made w ((w3.setCell ⟨r, 16, none⟩ (.int .u8 (a.toNat : Int))).setCell ⟨r, 16 + 1, none⟩ (.int .u8 (b.toNat : Int))) (.slice (some ⟨r, 0, none⟩) n c1) (sealM s d 6 l).1 by
        rw [HR.out]
        refine ⟨?_, put_kept HM3.out.2 HRR.out⟩
        show World.ownsRow _ _ _ _ _ (l.take (atM 6) ++ (beM 2 y ++ l.drop (atM 6 + 2))).length _
        rw [← HLAY.out, List.length_set, List.length_set, bare_len _ _ HAT.out, HL.out]
        exact HZ3.out.2.2.2.2)
      have HAA := Lib.hid haa
      have HBB := Lib.hid hbb
      clear hM hxx hlay hown3 HZ3 haa hbb hle hyl
      by_cases h0 : x = 0
      · subst h0
        have h0' : (((0 : Nat) : Int) == 0) = true := rfl
        obtain rfl : 0 = y := by rw [← hy]; rfl
        obtain rfl : 0 = a := by rw [← HAA.out]; rfl
        obtain rfl : 0 = b := by rw [← HBB.out]; rfl
        have q2' : (w3.setCell ⟨r, 16, none⟩ (.int .u8 0)).cell? ⟨r, 16 + 1, none⟩ = some (.int .u8 p1) := q2
        have q3' : (w3.setCell ⟨r, 16, none⟩ (.int .u8 0)).frozen? ⟨r, 16 + 1, none⟩ = false := q3
        have HF2 := Lib.hid (show Made w ((w3.setCell ⟨r, 16, none⟩ (.int .u8 0)).setCell ⟨r, 16 + 1, none⟩ (.int .u8 0)) (.slice (some ⟨r, 0, none⟩) n c1) (sealM s d 6 l).1 from HF.out)
        clear hy q2 q3 w1 w2 w1' w2' ham hbm HF
        go_wp2_with (fail)
        go_ret2
        exact ⟨_, by rw [HR.out]; rfl, HF2.out⟩
      · have h0' : ((x : Int) == 0) = false := by simp; omega
        obtain rfl : x = y := by rw [← hy]; unfold laidM; rw [if_neg (fun h => h0 h.2)]
        clear hy h0
        go_wp2_with (fail)
        go_ret2
        exact ⟨_, by rw [HR.out]; rfl, HF.out⟩
set_option maxRecDepth 100000 in
set_option maxHeartbeats 8000000 in
theorem qseal17 (s d : Nat) (hs : s < 4294967296) (hd : d < 4294967296) (A : Option Addr) (n c : Nat) (l : List UInt8) (w : World) (h : Byt w A n c l) (hn : n ≤ 1099511627776) :
    Calls Tryd.prog 17 #[.int .u32 (s : Int), .int .u32 (d : Int), .int .i64 17, .slice A n c] w fun e w' => SealQ w e w' (sealM s d 17 l) := by
  have hl := h.1
  have HB := Lib.hid h
  have HL := Lib.hid hl
  have HSE := Lib.hid (show sealM s d 17 l = if 65535 < n then ([], 1) else if n < 6 + 2 then ([], 4) else (l.take (atM 17) ++ (beM 2 (laidM 17 (sumM (allB s d 17 (bareM 17 l)))) ++ l.drop (atM 17 + 2)), 0) by
    unfold sealM
    rw [hl, show atM 17 = 6 from rfl]
    simp)
  obtain ⟨i0, hi, hz0, hz1, hz2⟩ := info_parts Tryd.infb
  clear h hl
  by_cases hb : 65535 < n
  · have hb' : (65535 : Int) < (n : Int) := by omega
    have HR := Lib.hid (show sealM s d 17 l = ([], 1) by rw [HSE.out, if_pos hb])
    clear hb HSE
    go_enter Tryd.func17, Tryd.ntmps17
    go_wp2_with (fail)
    go_ret2
    exact sealQ_none HR.out (Kept.refl _ _)
  · have hb' : ¬ (65535 : Int) < (n : Int) := by omega
    by_cases ha : n < 6 + 2
    · have ha' : (n : Int) < 6 + 2 := by omega
      have ha2 : (n : Int) < 18 → True := fun _ => trivial
      have HR := Lib.hid (show sealM s d 17 l = ([], 4) by rw [HSE.out, if_neg hb, if_pos ha])
      clear hb ha HSE
      go_enter Tryd.func17, Tryd.ntmps17
      go_wp2_with (fail)
      go_ret2
      exact sealQ_none HR.out (Kept.refl _ _)
    · have ha' : ¬ (n : Int) < 6 + 2 := by omega
      have HR := Lib.hid (show sealM s d 17 l = (l.take (atM 17) ++ (beM 2 (laidM 17 (sumM (allB s d 17 (bareM 17 l)))) ++ l.drop (atM 17 + 2)), 0) by rw [HSE.out, if_neg hb, if_neg ha])
      have HA := Lib.hid (show 6 + 2 ≤ n ∧ n ≤ 65535 by omega)
      have HAT := Lib.hid (show atM 17 + 2 ≤ l.length by rw [HL.out]; show 6 + 2 ≤ n; omega)
      have hlt0 : 6 < n := by omega
      have hlt1 : 6 + 1 < n := by omega
      clear hb ha HSE
      go_enter Tryd.func17, Tryd.ntmps17
      go_upto_region 10 with (first | (at_builtin; refine wpList_any rfl _ _ 22 rfl w.heap.size 5 i0 (.int .u8 0) Tryd.underlying22 hi hz0 hz1 hz2 rfl (.slice none 0 0) 0 [] rfl (World.ownsRow_nil _ _ _ _) A n c l rfl HB.out (by have := HA.out; omega) (Nat.le_refl _) ?_; intro v1 w1 hown hgrow hob; simp only [Act.put]) | fail)
      rw [Nat.zero_add, List.nil_append] at hown
      have HK1 := Lib.hid (show Kept Nil w w1 from (Kept.refl Nil w).grown hgrow (fun k hk => by cases hk))
      obtain ⟨r, c1, rfl, hr⟩ := own_slice hown (by omega)
      have HRR := Lib.hid hr
      have HZ2 := Lib.hid (two_put hown 6 (by omega) 0 0 0 0 rfl rfl)
      clear hown hgrow hob hr
      obtain ⟨⟨p0, q0⟩, q1, ⟨p1, q2⟩, q3, -⟩ := HZ2.out
      go_upto_region 12 with (fail)
      refine wp_nameE (fun W => Made w W (.slice (some ⟨r, 0, none⟩) n c1) (bareM 17 l)) ?_ ?_
      · refine ⟨?_, put_kept HK1.out HRR.out⟩
        have := HZ2.out.2.2.2.2
        rw [← bare_is 17 l HAT.out, List.length_set, List.length_set, HL.out]
        exact this
      clear q0 q1 q2 q3 HZ2 HK1
      rintro W2 hm2
      have HM2 := Lib.hid hm2
      have hb2 := hm2.1
      rw [bare_len _ _ HAT.out, HL.out] at hb2
      obtain ⟨A2, c2, e2, hy2, -⟩ := Byt.of_own hb2
      cases e2
      have HB2 := Lib.hid hy2
      have HBB2 := Lib.hid (HB.out.kept hm2.2 (fun _ _ hf => hf))
      clear hm2 hb2 hy2
      go_wp2_with (fail)
      refine (qall_yes s d 17 hs hd (by decide) _ n c1 (bareM 17 l) _ HB2.out HA.out.2).mono ?_
      rintro e w3 ⟨v3, rfl, hm3⟩
      obtain ⟨A3, c3, rfl, hb3, -⟩ := Byt.of_own hm3.1
      have HB3 := Lib.hid hb3
      have HM3 := Lib.hid (show Made w w3 (.slice (some ⟨r, 0, none⟩) n c1) (bareM 17 l) from ⟨own_kept HM2.out.1 hm3.2 (fun _ _ hf => hf), HM2.out.2.then hm3.2⟩)
      clear hm3 hb3 HM2 HB2 HBB2
      go_wp2_with (fail)
      refine (qwords_yes A3 _ c3 _ _ HB3.out (by unfold allB; rw [List.length_append, pseu_len, bare_len _ _ HAT.out, HL.out]; have := HA.out; omega)).mono ?_
      rintro e w4 ⟨rfl, rfl⟩
      have hle := accM_le (allB s d 17 (bareM 17 l))
      obtain ⟨M, hM⟩ : ∃ M, accM (allB s d 17 (bareM 17 l)) = M := ⟨_, rfl⟩
      obtain ⟨x, hxx⟩ : ∃ x, sumM (allB s d 17 (bareM 17 l)) = x := ⟨_, rfl⟩
      have hxM : (65535 : Int) - (M : Int) = (x : Int) := by rw [← hxx]; unfold sumM; rw [hM]; omega
      have hx : x < 65536 := by omega
      rw [hM]
      rw [hxx] at HR
      obtain ⟨y, hy⟩ : ∃ y, laidM 17 x = y := ⟨_, rfl⟩
      have hyl := laid_lt 17 x hx
      rw [hy] at HR hyl
      have w1 : IntKind.wrap .u8 ((y : Int) / 256) = (((UInt8.ofNat (y / 256)).toNat : Nat) : Int) := by rw [IntWalk.u8_in _ (by omega), UInt8.toNat_ofNat']; omega
      have w2 : IntKind.wrap .u8 ((y : Int) % 256) = (((UInt8.ofNat y).toNat : Nat) : Int) := by rw [IntWalk.u8_in _ (by omega), UInt8.toNat_ofNat']; omega
      have w1' : (y : Int) / 256 = (((UInt8.ofNat (y / 256)).toNat : Nat) : Int) := by rw [UInt8.toNat_ofNat']; omega
      have w2' : (y : Int) % 256 = (((UInt8.ofNat y).toNat : Nat) : Int) := by rw [UInt8.toNat_ofNat']; omega
      have hlay := laid_is 17 l y HAT.out
      obtain ⟨a, haa⟩ : ∃ a, UInt8.ofNat (y / 256) = a := ⟨_, rfl⟩
      obtain ⟨b, hbb⟩ : ∃ b, UInt8.ofNat y = b := ⟨_, rfl⟩
      rw [haa] at w1 w1' hlay
      rw [hbb] at w2 w2' hlay
      have ham : (a.toNat : Int) % 256 = (a.toNat : Int) := by have := a.toNat_lt; omega
      have hbm : (b.toNat : Int) % 256 = (b.toNat : Int) := by have := b.toNat_lt; omega
      have HLAY := Lib.hid hlay
      have hown3 := HM3.out.1
      rw [bare_len _ _ HAT.out, HL.out] at hown3
      have HZ3 := Lib.hid (two_put hown3 6 (by omega) a b _ _ rfl rfl)
      obtain ⟨⟨p0, q0⟩, q1, ⟨p1, q2⟩, q3, -⟩ := HZ3.out
      have HF := Lib.hid (show Made w ((w3.setCell ⟨r, 6, none⟩ (.int .u8 (a.toNat : Int))).setCell ⟨r, 6 + 1, none⟩ (.int .u8 (b.toNat : Int))) (.slice (some ⟨r, 0, none⟩) n c1) (sealM s d 17 l).1 by
        rw [HR.out]
        refine ⟨?_, put_kept HM3.out.2 HRR.out⟩
        show World.ownsRow _ _ _ _ _ (l.take (atM 17) ++ (beM 2 y ++ l.drop (atM 17 + 2))).length _
        rw [← HLAY.out, List.length_set, List.length_set, bare_len _ _ HAT.out, HL.out]
        exact HZ3.out.2.2.2.2)
      have HAA := Lib.hid haa
      have HBB := Lib.hid hbb
      clear hM hxx hlay hown3 HZ3 haa hbb hle hyl
      by_cases h0 : x = 0
      · subst h0
        have h0' : (((0 : Nat) : Int) == 0) = true := rfl
        obtain rfl : 65535 = y := by rw [← hy]; rfl
        obtain rfl : 255 = a := by rw [← HAA.out]; rfl
        obtain rfl : 255 = b := by rw [← HBB.out]; rfl
        have q2' : (w3.setCell ⟨r, 6, none⟩ (.int .u8 255)).cell? ⟨r, 6 + 1, none⟩ = some (.int .u8 p1) := q2
        have q3' : (w3.setCell ⟨r, 6, none⟩ (.int .u8 255)).frozen? ⟨r, 6 + 1, none⟩ = false := q3
        have HF2 := Lib.hid (show Made w ((w3.setCell ⟨r, 6, none⟩ (.int .u8 255)).setCell ⟨r, 6 + 1, none⟩ (.int .u8 255)) (.slice (some ⟨r, 0, none⟩) n c1) (sealM s d 17 l).1 from HF.out)
        clear hy q2 q3 w1 w2 w1' w2' ham hbm HF
        go_wp2_with (fail)
        go_ret2
        exact ⟨_, by rw [HR.out]; rfl, HF2.out⟩
      · have h0' : ((x : Int) == 0) = false := by simp; omega
        obtain rfl : x = y := by rw [← hy]; unfold laidM; rw [if_neg (fun h => h0 h.2)]
        clear hy h0
        go_wp2_with (fail)
        go_ret2
        exact ⟨_, by rw [HR.out]; rfl, HF.out⟩
set_option maxRecDepth 100000 in
set_option maxHeartbeats 4000000 in
theorem qseal_no (s d p : Nat) (hp : p < 256) (h6 : p ≠ 6) (h17 : p ≠ 17) (A : Option Addr) (n c : Nat) (l : List UInt8) (w : World) :
    Calls Tryd.prog 17 #[.int .u32 (s : Int), .int .u32 (d : Int), .int .i64 (p : Int), .slice A n c] w fun e w' => SealQ w e w' (sealM s d p l) := by
  have HR := Lib.hid (show sealM s d p l = ([], 1) by unfold sealM; rw [if_pos (.inl ⟨h6, h17⟩)])
  have b1 : ((p : Int) != 6) = true := by simp; omega
  have b2 : ((p : Int) != 17) = true := by simp; omega
  clear h6 h17
  go_enter Tryd.func17, Tryd.ntmps17
  go_wp2_with (fail)
  go_ret2
  exact sealQ_none HR.out (Kept.refl _ _)
theorem qseal_yes (s d p : Nat) (hs : s < 4294967296) (hd : d < 4294967296) (hp : p < 256) (A : Option Addr) (n c : Nat) (l : List UInt8) (w : World) (h : Byt w A n c l) (hn : n ≤ 1099511627776) :
    Calls Tryd.prog 17 #[.int .u32 (s : Int), .int .u32 (d : Int), .int .i64 (p : Int), .slice A n c] w fun e w' => SealQ w e w' (sealM s d p l) := by
  by_cases h6 : p = 6
  · subst h6; exact qseal6 s d hs hd A n c l w h hn
  · by_cases h17 : p = 17
    · subst h17; exact qseal17 s d hs hd A n c l w h hn
    · exact qseal_no s d p hp h6 h17 A n c l w
end Go.Proofs.YthjbabkmjmfmjaaDoor
