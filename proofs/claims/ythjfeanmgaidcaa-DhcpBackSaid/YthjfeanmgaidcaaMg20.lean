/- Texts that belong together, one behind the other: DhFr, DhW. Conditions: those of each. -/
import Derived.Test.YthjfeanmgaidcaaMg11
import Derived.Test.YthjfeanmgaidcaaMg19
import Derived.Test.YthjfeanmgaidcaaMg16
import Derived.Test.YthjfeanmgaidcaaMg7
/- An argument that is a message, read. -/
namespace Go.Proofs.Ythjfeanmgaidcaa
open Go.ChangeShapes Go.WideShapes Go.RowKit
set_option linter.unusedVariables false

/-- A message as it is handed: what it tells, and its slices. -/
structure MsA where
  h : Dh
  o : Value
  b : Value
def MsA.In (x : MsA) (w : World) : Prop := DhIn (fun _ => True) w x.h x.o x.b
theorem u8_nat (n : Nat) (h : n ≤ 255) : ∃ b : UInt8, n = b.toNat := ⟨UInt8.ofNat n, by rw [UInt8.toNat_ofNat']; omega⟩
theorem cut_two {α : Type} (l : List α) (h : l.length = 2) : ∃ a b, l = [a, b] := by
  match l, h with
  | [a, b], _ => exact ⟨a, b, rfl⟩
section
variable {H : Type} {enc : TypeId × Value → H} {w : World} {base : Nat} {spare : Nat → Bool} {held : Bool}
theorem rd_optE {fuel : Nat} {cs : List Value} {x : DataW H × List MemPlace} (h : DataW.trod enc Try.prog w base spare held fuel 47 cs = some x) : ∃ o : Opn, OpR (fun _ => True) .u8 w cs o := by
  have hl : cs.length = 2 := by
    obtain ⟨_, _, _, _, h4, _⟩ := DataW.trod_struct Try.underlying47 h
    rw [h4]; kernel_rfl
  obtain ⟨c0, c1, rfl⟩ := cut_two cs hl
  obtain ⟨n0, y0, h0⟩ := rd_field Try.underlying47 h 0 _ rfl [c0] (by simp [show Try.prog.cellsOf 5 = 1 by kernel_rfl])
  obtain ⟨n1, y1, h1⟩ := rd_field Try.underlying47 h 1 _ rfl [c1] (by simp [show Try.prog.cellsOf 31 = 1 by kernel_rfl])
  obtain ⟨k, rfl, hk⟩ := rd_nat 255 Try.underlying5 wfu8 h0
  obtain ⟨k, rfl⟩ := u8_nat k hk
  obtain ⟨A, n, c, l, rfl, hb⟩ := rd_bytes Try.underlying31 Try.underlying5 (by kernel_rfl) h1
  exact ⟨(k, l), A, n, c, rfl, hb, fun _ _ => trivial⟩
theorem rd_opts {fuel : Nat} {v : Value} {x : DataW H × List MemPlace} (h : DataW.trod enc Try.prog w base spare held fuel 30 [v] = some x) : ∃ A n c os, v = .slice A n c ∧ Opts (fun _ => True) .u8 w A n c os := by
  obtain ⟨A, n, c, rfl, h1, h2, h3⟩ := rd_rows 2 (by omega) Try.underlying30 (by kernel_rfl) h
  rcases Nat.eq_zero_or_pos n with h0 | h0
  · subst h0
    exact ⟨A, 0, c, [], rfl, rfl, ⟨[], ⟨rfl, h1, h2, fun _ h => by simp at h, fun h => absurd h (by omega)⟩, fun _ _ _ h => by simp at h⟩, fun _ _ => trivial⟩
  · obtain ⟨b, o, rfl, hel⟩ := h3 h0
    have : ∀ i, i < n → ∃ p : List Value × Opn, OpR (fun _ => True) .u8 w p.1 p.2 ∧ ∀ j (hj : j < p.1.length), w.cell? ⟨b, o + i * 2 + j, none⟩ = some p.1[j] := by
      intro i hi
      obtain ⟨cs, y, fl, hl, hcell, htr⟩ := hel i hi
      obtain ⟨t, ht⟩ := rd_optE htr
      exact ⟨(cs, t), ht, hcell⟩
    obtain ⟨l, hl, hp⟩ := pick n _ this
    refine ⟨some ⟨b, o, none⟩, n, c, l.map Prod.snd, rfl, by rw [List.length_map]; exact hl, ⟨l.map Prod.fst, ⟨by rw [List.length_map]; exact hl, h1, h2, ?_, fun _ => ⟨b, o, rfl, fun i hi j hj => ?_⟩⟩, fun i r t hr ht => ?_⟩, fun _ _ => trivial⟩
    · intro r hr
      obtain ⟨x, hx, rfl⟩ := List.mem_map.1 hr
      obtain ⟨i, hi, rfl⟩ := List.getElem_of_mem hx
      exact (hp i hi).1.two
    · have hi' : i < l.length := by simpa using hi
      have := (hp i hi').2 j (by simpa using hj)
      simpa using this
    · rw [List.getElem?_map] at hr ht
      rcases Nat.lt_or_ge i l.length with hi | hi
      · rw [List.getElem?_eq_getElem hi] at hr ht
        simp at hr ht
        subst hr ht
        exact (hp i hi).1
      · rw [List.getElem?_eq_none hi] at hr
        simp at hr
set_option maxRecDepth 100000 in
theorem rd_dh {fuel : Nat} {cs : List Value} {y : DataW H × List MemPlace} (h : DataW.trod enc Try.prog w base spare held fuel 33 cs = some y) : ∃ x : MsA, x.In w ∧ cs = dcs x.h x.o x.b := by
  have hl : cs.length = 219 := by
    obtain ⟨_, _, _, _, h4, _⟩ := DataW.trod_struct Try.underlying33 h
    rw [h4]; kernel_rfl
  match cs, hl with
  | c0 :: c1 :: c2 :: c3 :: c4 :: c5 :: c6 :: c7 :: c8 :: r, hl =>
    have hr : r.length = 210 := by simpa using hl
    obtain ⟨cO, cB, hOB⟩ := cut_two (r.drop 208) (by simp [hr])
    obtain ⟨n0, y0, h0⟩ := rd_field Try.underlying33 h 0 _ rfl [c0] (by rw [show Try.prog.cellsOf _ = 1 by kernel_rfl]; rfl)
    obtain ⟨n1, y1, h1⟩ := rd_field Try.underlying33 h 1 _ rfl [c1] (by rw [show Try.prog.cellsOf _ = 1 by kernel_rfl]; rfl)
    obtain ⟨n2, y2, h2⟩ := rd_field Try.underlying33 h 2 _ rfl [c2] (by rw [show Try.prog.cellsOf _ = 1 by kernel_rfl]; rfl)
    obtain ⟨n3, y3, h3⟩ := rd_field Try.underlying33 h 3 _ rfl [c3] (by rw [show Try.prog.cellsOf _ = 1 by kernel_rfl]; rfl)
    obtain ⟨n4, y4, h4⟩ := rd_field Try.underlying33 h 4 _ rfl [c4] (by rw [show Try.prog.cellsOf _ = 1 by kernel_rfl]; rfl)
    obtain ⟨n5, y5, h5⟩ := rd_field Try.underlying33 h 5 _ rfl [c5] (by rw [show Try.prog.cellsOf _ = 1 by kernel_rfl]; rfl)
    obtain ⟨n6, y6, h6⟩ := rd_field Try.underlying33 h 6 _ rfl [c6] (by rw [show Try.prog.cellsOf _ = 1 by kernel_rfl]; rfl)
    obtain ⟨n7, y7, h7⟩ := rd_field Try.underlying33 h 7 _ rfl [c7] (by rw [show Try.prog.cellsOf _ = 1 by kernel_rfl]; rfl)
    obtain ⟨n8, y8, h8⟩ := rd_field Try.underlying33 h 8 _ rfl [c8] (by rw [show Try.prog.cellsOf _ = 1 by kernel_rfl]; rfl)
    obtain ⟨n9, y9, h9⟩ := rd_field Try.underlying33 h 9 _ rfl (r.take 6) (by rw [show Try.prog.cellsOf _ = 6 by kernel_rfl]; rfl)
    obtain ⟨n10, y10, h10⟩ := rd_field Try.underlying33 h 10 _ rfl ((r.drop 6).take 10) (by rw [show Try.prog.cellsOf _ = 10 by kernel_rfl]; rfl)
    obtain ⟨n11, y11, h11⟩ := rd_field Try.underlying33 h 11 _ rfl ((r.drop 16).take 64) (by rw [show Try.prog.cellsOf _ = 64 by kernel_rfl]; rfl)
    obtain ⟨n12, y12, h12⟩ := rd_field Try.underlying33 h 12 _ rfl ((r.drop 80).take 128) (by rw [show Try.prog.cellsOf _ = 128 by kernel_rfl]; rfl)
    obtain ⟨n13, y13, h13⟩ := rd_field Try.underlying33 h 13 _ rfl [cO] (by rw [show Try.prog.cellsOf _ = 1 by kernel_rfl]; show (r.drop 208).take 1 = _; rw [hOB]; rfl)
    obtain ⟨n14, y14, h14⟩ := rd_field Try.underlying33 h 14 _ rfl [cB] (by rw [show Try.prog.cellsOf _ = 1 by kernel_rfl]; show (r.drop (208 + 1)).take 1 = _; rw [← List.drop_drop, hOB]; rfl)
    obtain ⟨k0, rfl, b0⟩ := rd_nat 255 Try.underlying5 wfu8 h0
    obtain ⟨k1, rfl, b1⟩ := rd_nat 255 Try.underlying5 wfu8 h1
    obtain ⟨k2, rfl, b2⟩ := rd_nat 4294967295 Try.underlying22 wfu32 h2
    obtain ⟨k3, rfl, b3⟩ := rd_nat 65535 Try.underlying23 wfu16 h3
    obtain ⟨k4, rfl, b4⟩ := rd_nat 65535 Try.underlying23 wfu16 h4
    obtain ⟨k5, rfl, b5⟩ := rd_nat 4294967295 Try.underlying24 wfu32 h5
    obtain ⟨k6, rfl, b6⟩ := rd_nat 4294967295 Try.underlying24 wfu32 h6
    obtain ⟨k7, rfl, b7⟩ := rd_nat 4294967295 Try.underlying24 wfu32 h7
    obtain ⟨k8, rfl, b8⟩ := rd_nat 4294967295 Try.underlying24 wfu32 h8
    obtain ⟨k0, rfl⟩ := u8_nat k0 b0
    obtain ⟨k1, rfl⟩ := u8_nat k1 b1
    obtain ⟨s, hs, es⟩ := rd_arr 6 Try.underlying26 Try.underlying5 (by kernel_rfl) (by kernel_rfl) h9
    obtain ⟨p, hp, ep⟩ := rd_arr 10 Try.underlying27 Try.underlying5 (by kernel_rfl) (by kernel_rfl) h10
    obtain ⟨q, hq, eq⟩ := rd_arr 64 Try.underlying28 Try.underlying5 (by kernel_rfl) (by kernel_rfl) h11
    obtain ⟨f, hf, ef⟩ := rd_arr 128 Try.underlying29 Try.underlying5 (by kernel_rfl) (by kernel_rfl) h12
    obtain ⟨Ao, no, co, os, rfl, ho⟩ := rd_opts h13
    obtain ⟨Ab, nb, cb, b, rfl, hb⟩ := rd_bytes Try.underlying31 Try.underlying5 (by kernel_rfl) h14
    refine ⟨⟨⟨k0, k1, k2, k3, k4, k5, k6, k7, k8, s, p, q, f, os, b⟩, .slice Ao no co, .slice Ab nb cb⟩, ⟨⟨⟨hs, hp, hq, hf⟩, by simp only; omega, by simp only; omega, by simp only; omega, by simp only; omega, by simp only; omega, by simp only; omega, by simp only; omega⟩, ⟨_, _, _, rfl, ho⟩, ⟨_, _, _, rfl, hb, fun _ _ => trivial⟩⟩, ?_⟩
    have e : r = bys s ++ (bys p ++ (bys q ++ (bys f ++ [.slice Ao no co, .slice Ab nb cb]))) := by
      rw [← es, ← ep, ← eq, ← ef, ← hOB]
      have x4 : (r.drop 80).take 128 ++ r.drop 208 = r.drop 80 := by
        have := List.take_append_drop 128 (r.drop 80)
        rwa [List.drop_drop] at this
      have x3 : (r.drop 16).take 64 ++ r.drop 80 = r.drop 16 := by
        have := List.take_append_drop 64 (r.drop 16)
        rwa [List.drop_drop] at this
      have x2 : (r.drop 6).take 10 ++ r.drop 16 = r.drop 6 := by
        have := List.take_append_drop 10 (r.drop 6)
        rwa [List.drop_drop] at this
      rw [x4, x3, x2, List.take_append_drop]
    rw [e]
    rfl
set_option maxRecDepth 100000 in
theorem open_dh {r : Reach} {b : Nat} {v : Value} {d : DataW H} {ps : List MemPlace} (hv : Value.okWide Try.prog w r b 33 v) (h : DataW.Trod enc Try.prog w base spare held 33 v d ps) : ∃ x : MsA, x.In w ∧ v = dhv x.h x.o x.b := by
  obtain ⟨cs, rfl, _⟩ := okWide_struct Try.underlying33 hv
  obtain ⟨fuel, hf⟩ := h
  obtain ⟨x, hx, hc⟩ := rd_dh hf
  refine ⟨x, hx, ?_⟩
  have : cs.toList = dcs x.h x.o x.b := hc
  rw [show cs = ⟨cs.toList⟩ from rfl, this]
  rfl
end
end Go.Proofs.Ythjfeanmgaidcaa
/- Package dhcp: contracts of Number, Wanted, Lease, Type. -/
namespace Go.Proofs.Ythjfeanmgaidcaa
open Go.RowKit Go.Sort
set_option linter.unusedVariables false

theorem valD_le (cd : UInt8) (os : List Opn) : (valD cd os).1.length ≤ totM os := by
  unfold valD
  split
  · exact valM_le cd os
  · simp
theorem one_of (l : List UInt8) (h : l.length = 1) : ∃ b, l = [b] := by
  match l, h with
  | [b], _ => exact ⟨b, rfl⟩
theorem typL_not (l : List UInt8) (h : l.length ≠ 1) : typL l = 0 := by
  unfold typL
  split
  · simp at h
  · rfl
set_option maxRecDepth 100000 in
set_option maxHeartbeats 4000000 in
theorem type_yes (D : Nat → Prop) (h : Dh) (vo vb : Value) (w : World) (hI : DhIn D w h vo vb) (ht : totM h.os ≤ 1099511627776) : Calls Try.prog 37 #[dhv h vo vb] w fun e w' => e = .returned (.int .i64 (typD h.os : Int)) ∧ Kept Nil w w' := by
  have hP := DB.new w 33 h vo vb
  have hk := (Kept.refl Nil w).alloc (.cells (dcs h vo vb).toArray 33)
  go_enter Try.func37, Try.ntmps37
  go_upto_region 1 with (fail)
  refine wp_nameE (fun W => DB W w.heap.size 33 h vo vb ∧ Kept Nil w W) ⟨hP, hk⟩ ?_
  clear hP hk
  rintro W ⟨hP, hk⟩
  have HI := Lib.hid (hI.nil hk)
  have HS := Lib.hid hI.ok.s6
  have HR := Lib.hid hP.all
  have HK := Lib.hid hk
  have HT := Lib.hid ht
  clear hP hk hI ht
  go_wp2_with (first | (refine wpList_ld rfl _ _ rfl w.heap.size 0 rfl (dcs h vo vb) HR.out _ Try.underlying33 rfl (infDh h HS.out vo vb) ?_) | fail)
  refine (value_yes D h vo vb 53 _ HI.out HT.out).mono ?_
  rintro e w1 ⟨v, rfl, hm⟩
  obtain ⟨A, c, rfl, hy, -⟩ := byt_own hm
  have HY := Lib.hid hy
  have HK1 := Lib.hid (HK.out.then hm.2)
  clear hm hy
  have HN := Lib.hid (show typD h.os = typL (valD 53 h.os).1 from rfl)
  generalize (valD 53 h.os).1 = l at *
  obtain ⟨m, hm⟩ : ∃ m, l.length = m := ⟨_, rfl⟩
  rw [hm] at HY ⊢
  have HM := Lib.hid hm
  clear hm
  by_cases h1 : m = 1
  · subst h1
    obtain ⟨b, rfl⟩ := one_of l HM.out
    obtain ⟨g, o, rfl, hc⟩ := HY.out.at (i := 0) (show 0 < 1 by omega)
    have q0 : w1.cell? ⟨g, o, none⟩ = some (.int .u8 (b.toNat : Int)) := hc
    have hb := b.toNat_lt
    have hw64 : wrap64 (b.toNat : Int) = (b.toNat : Int) := by unfold wrap64; omega
    have HB := Lib.hid hb
    clear hc hb HM HY
    by_cases hlo : b.toNat < 1
    · have e1 : decide ((b.toNat : Int) < 1) = true := by simp; omega
      have e1' : (b.toNat : Int) < 1 := by omega
      have HN' := Lib.hid (show typD h.os = 0 by rw [HN.out]; unfold typL; simp only; rw [if_neg (by omega)])
      clear hlo HN
      go_wp2
      go_ret
      exact ⟨by rw [HN'.out]; rfl, HK1.out⟩
    · have e1 : decide ((b.toNat : Int) < 1) = false := by simp; omega
      have e1' : ¬ (b.toNat : Int) < 1 := by omega
      by_cases hhi : 8 < b.toNat
      · have e2 : decide ((8 : Int) < (b.toNat : Int)) = true := by simp; omega
        have e2' : (8 : Int) < (b.toNat : Int) := by omega
        have HN' := Lib.hid (show typD h.os = 0 by rw [HN.out]; unfold typL; simp only; rw [if_neg (by omega)])
        clear hlo hhi HN
        go_wp2
        go_ret
        exact ⟨by rw [HN'.out]; rfl, HK1.out⟩
      · have e2 : decide ((8 : Int) < (b.toNat : Int)) = false := by simp; omega
        have e2' : ¬ (8 : Int) < (b.toNat : Int) := by omega
        have HN' := Lib.hid (show typD h.os = b.toNat by rw [HN.out]; unfold typL; simp only; rw [if_pos (by omega)])
        clear hlo hhi HN
        go_wp2
        go_ret
        exact ⟨by rw [HN'.out]; rfl, HK1.out⟩
  · have hb : ((m : Int) != 1) = true := by simp; omega
    have HN' := Lib.hid (show typD h.os = 0 by rw [HN.out]; exact typL_not l (by rw [HM.out]; exact h1))
    clear HN h1
    go_wp2
    go_ret
    exact ⟨by rw [HN'.out]; rfl, HK1.out⟩
end Go.Proofs.Ythjfeanmgaidcaa
