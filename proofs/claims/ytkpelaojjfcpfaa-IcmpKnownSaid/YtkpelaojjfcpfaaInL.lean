/- Package inet: contracts of Sum, First, Later, size, mayHold, optionLen, mayBeOptions, fragment. Package inet: what Get and Cut answer. -/
import Derived.Test.YtkpelaojjfcpfaaNewB
import Derived.Test.YtkpelaojjfcpfaaRgG
import Derived.Test.YtkpelaojjfcpfaaCSum
import Derived.Test.YtkpelaojjfcpfaaUpto
namespace Go.Proofs.Ytkpelaojjfcpfaa
open Go.RowKit Go.Sort
set_option linter.unusedVariables false

theorem irow1 (w : World) (A : Option Addr) (n c : Nat) (l : List UInt8) (h : Byt w A n c l) (s : Nat) (hs : s = w.heap.size) : Rowz (w.alloc (.cells #[.slice A n c] 22)) (some ⟨s, 0, none⟩) 1 1 [l] := by
  subst hs
  have hB := Blo.new w 22 #[.slice A n c]
  refine ⟨rfl, Nat.le_refl _, by decide, fun _ => ⟨_, _, rfl, fun i hi => ?_⟩⟩
  have h0 : i = 0 := by simp at hi; omega
  subst h0
  exact ⟨A, n, c, by rw [hB.cell]; rfl, h.kept ((Kept.refl Nil w).alloc _) (fun _ _ hf => hf)⟩
theorem isum_yes (A : Option Addr) (n c : Nat) (l : List UInt8) (w : World) (h : Byt w A n c l) (hn : n ≤ 1099511627776) : Calls Try.prog 21 #[.slice A n c] w fun e w' => e = .returned (.int .u16 (sumM l : Int)) ∧ Kept Nil w w' := by
  have HR := Lib.hid (irow1 w A n c l h _ rfl)
  have hl := h.1
  have HK := Lib.hid ((Kept.refl Nil w).alloc (.cells #[.slice A n c] 22))
  clear h
  go_enter Try.func21, Try.ntmps21
  go_wp2_with (fail)
  refine (Sum_yes _ 1 1 [l] _ HR.out (by simp; omega)).mono ?_
  rintro e w1 ⟨rfl, rfl⟩
  rw [show [l].flatten = l by simp, csum_eq]
  go_wp2
  go_ret
  exact ⟨rfl, HK.out⟩
theorem HB_lit (w : World) (T : TypeId) (h : Hd) (A : Option Addr) (n c : Nat) : HB (w.alloc (.cells (hcs h A n c).toArray T)) w.heap.size T h A n c := HB.new w T h A n c
theorem infHi (h : Hd) (A : Option Addr) (n c : Nat) : (Try.prog.info? 47).map (·.size) = some (hcs h A n c).length := by rw [hcs_len]; kernel_rfl
theorem isize_yes (h : Hd) (A : Option Addr) (n c : Nat) (hn : n ≤ 1099511627776) (w : World) : Calls Try.prog 37 #[hdv h A n c] w fun e w' => e = .returned (.int .i64 ((20 + n : Nat) : Int)) ∧ Kept Nil w w' := by
  have hP := HB.new w 47 h A n c
  have hk := (Kept.refl Nil w).alloc (.cells (hcs h A n c).toArray 47)
  go_enter Try.func37, Try.ntmps37
  go_upto_region 1 with (fail)
  refine wp_nameE (fun W => HB W w.heap.size 47 h A n c ∧ Kept Nil w W) ⟨hP, hk⟩ ?_
  clear hP hk
  rintro W ⟨hP, hk⟩
  have c0 := hP.cx
  have HK := Lib.hid hk
  clear hP hk
  go_wp2
  go_ret
  exact ⟨by go_num, HK.out⟩
set_option maxHeartbeats 2000000 in
theorem ihold_yes (h : Hd) (A : Option Addr) (n c : Nat) (many : Nat) (ho : 0 ≤ h.o ∧ h.o ≤ 8191) (hm : many ≤ 1099511627776) (w : World) : Calls Try.prog 36 #[hdv h A n c, .int .i64 (many : Int)] w fun e w' => e = .returned (.bool (fitsM h many)) ∧ Kept Nil w w' := by
  have hP := HB.new w 47 h A n c
  have hk := (Kept.refl Nil w).alloc (.cells (hcs h A n c).toArray 47)
  go_enter Try.func36, Try.ntmps36
  go_upto_region 1 with (fail)
  refine wp_nameE (fun W => HB W w.heap.size 47 h A n c ∧ Kept Nil w W) ⟨hP, hk⟩ ?_
  clear hP hk
  rintro W ⟨hP, hk⟩
  have c0 := hP.co
  have c1 := hP.cm
  have HK := Lib.hid hk
  clear hP hk
  obtain ⟨ho1, ho2⟩ := ho
  by_cases h1 : h.o * 8 + (many : Int) ≤ 65535
  · cases hmm : h.m with
    | false =>
      have hf : fitsM h many = true := by unfold fitsM; rw [hmm]; simp; exact h1
      have HF := Lib.hid hf
      rw [hmm] at c1
      clear hf hmm
      generalize h.o = o at *
      go_wp2
      go_ret
      exact ⟨by rw [HF.out]; rfl, HK.out⟩
    | true =>
      by_cases h8 : many % 8 = 0
      · have h8' : ((many : Int) % 8 == 0) = true := by simp; omega
        have hf : fitsM h many = true := by unfold fitsM; rw [hmm]; simp; exact ⟨h1, h8⟩
        have HF := Lib.hid hf
        rw [hmm] at c1
        clear hf hmm
        generalize h.o = o at *
        go_wp2
        go_ret
        exact ⟨by rw [HF.out]; rfl, HK.out⟩
      · have h8' : ((many : Int) % 8 == 0) = false := by simp; omega
        have hf : fitsM h many = false := by unfold fitsM; rw [hmm]; simp [h8]
        have HF := Lib.hid hf
        rw [hmm] at c1
        clear hf hmm
        generalize h.o = o at *
        go_wp2
        go_ret
        exact ⟨by rw [HF.out]; rfl, HK.out⟩
  · have hf : fitsM h many = false := by unfold fitsM; simp; intro h2; exact absurd h2 h1
    have HF := Lib.hid hf
    clear hf
    generalize h.o = o at *
    go_wp2
    go_ret
    exact ⟨by rw [HF.out]; rfl, HK.out⟩
def olenM (l : List UInt8) (x : UInt8) : Nat × Bool := if x = 1 then (1, true) else match l[1]? with | none => (0, false) | some y => if y.toNat < 2 ∨ l.length < y.toNat then (0, false) else (y.toNat, true)
set_option maxHeartbeats 2000000 in
theorem iolen_yes (A : Option Addr) (n c : Nat) (l : List UInt8) (x : UInt8) (w : World) (h : Byt w A n c l) (hx : l[0]? = some x) (hn : n ≤ 1099511627776) : Calls Try.prog 52 #[.slice A n c] w fun e w' => e = .returned (.tuple #[.int .i64 ((olenM l x).1 : Int), .bool (olenM l x).2]) ∧ w = w' := by
  have hl := h.1
  have h0 : 0 < n := by have := (List.getElem?_eq_some_iff.1 hx).1; omega
  obtain ⟨b, o, rfl, -⟩ := h.2.2.2 h0
  have hnc := h.2.1
  have hcc := h.2.2.1
  have c0 := byt_ge h 0 x hx
  simp only [Nat.add_zero] at c0
  have hxl := x.toNat_lt
  by_cases x1 : x = 1
  · subst x1
    have HR := Lib.hid (show olenM l 1 = (1, true) by unfold olenM; rw [if_pos rfl])
    clear h hx
    go_enter Try.func52, Try.ntmps52
    go_wp2
    go_ret2
    exact ⟨by rw [HR.out]; rfl, rfl⟩
  · have b1 : ((x.toNat : Int) == 1) = false := by
      simp only [beq_eq_false_iff_ne, ne_eq]
      intro he
      exact x1 (UInt8.toNat_inj.1 (by show x.toNat = 1; omega))
    by_cases h2 : n < 2
    · have HR := Lib.hid (show olenM l x = (0, false) by unfold olenM; rw [if_neg x1, List.getElem?_eq_none (by omega)])
      have h2' : (n : Int) < 2 := by omega
      clear h hx x1 hl
      go_enter Try.func52, Try.ntmps52
      go_wp2
      go_ret2
      exact ⟨by rw [HR.out]; rfl, rfl⟩
    · obtain ⟨y, hy⟩ : ∃ y, l[1]? = some y := ⟨l[1]'(by omega), List.getElem?_eq_getElem _⟩
      have c1 := byt_ge h 1 y hy
      have hyl := y.toNat_lt
      have h2' : ¬ (n : Int) < 2 := by omega
      have HM := Lib.hid (show olenM l x = if y.toNat < 2 ∨ n < y.toNat then (0, false) else (y.toNat, true) by unfold olenM; rw [if_neg x1, hy, hl])
      clear h hx x1 hl hy
      by_cases y2 : y.toNat < 2
      · have y2' : (y.toNat : Int) < 2 := by omega
        have HR := Lib.hid (show olenM l x = (0, false) by rw [HM.out, if_pos (.inl y2)])
        go_enter Try.func52, Try.ntmps52
        go_wp2
        go_ret2
        exact ⟨by rw [HR.out]; rfl, rfl⟩
      · have y2' : ¬ (y.toNat : Int) < 2 := by omega
        by_cases yn : n < y.toNat
        · have yn' : (n : Int) < (y.toNat : Int) := by omega
          have HR := Lib.hid (show olenM l x = (0, false) by rw [HM.out, if_pos (.inr yn)])
          go_enter Try.func52, Try.ntmps52
          go_wp2
          go_ret2
          exact ⟨by rw [HR.out]; rfl, rfl⟩
        · have yn' : ¬ (n : Int) < (y.toNat : Int) := by omega
          have HR := Lib.hid (show olenM l x = (y.toNat, true) by rw [HM.out, if_neg (by omega)])
          go_enter Try.func52, Try.ntmps52
          go_wp2
          go_ret2
          exact ⟨by rw [HR.out]; first | rfl | go_num, rfl⟩
theorem drop_cut (l : List UInt8) (n k j : Nat) (hl : l.length = n) : ((l.drop k).take (n - k)).drop j = l.drop (k + j) := by
  rw [List.take_of_length_le (by rw [List.length_drop]; omega), List.drop_drop]
set_option maxRecDepth 100000 in
set_option maxHeartbeats 2000000 in
theorem imay_yes (A : Option Addr) (n c : Nat) (l : List UInt8) (w : World) (h : Byt w A n c l) (hn : n ≤ 1099511627776) : Calls Try.prog 35 #[.slice A n c] w fun e w' => e = .returned (.bool (optsM l)) ∧ w = w' := by
  have hnc := h.2.1
  have hcc := h.2.2.1
  have hl := h.1
  have HL := Lib.hid hl
  have HB := Lib.hid h
  have HO := Lib.hid (show optsM l = (decide (n ≤ 40 ∧ n % 4 = 0) && optsGo n l) by unfold optsM; rw [hl])
  clear h hl
  by_cases h40 : 40 < n
  · have h40' : (40 : Int) < (n : Int) := by omega
    have HR := Lib.hid (show optsM l = false by rw [HO.out, decide_eq_false (by omega)]; rfl)
    go_enter Try.func35, Try.ntmps35
    go_wp2
    go_ret
    exact ⟨by rw [HR.out]; rfl, rfl⟩
  · by_cases h4 : n % 4 = 0
    · have h4' : ((n : Int) % 4 != 0) = false := by simp; omega
      have HR := Lib.hid (show optsM l = optsGo n l by rw [HO.out, decide_eq_true ⟨by omega, h4⟩, Bool.true_and])
      clear HO
      go_enter Try.func35, Try.ntmps35
      go_wp2
      go_loop [0] (fun x => ∃ (k : Nat) (A' : Option Addr) (m c' : Nat), k ≤ n ∧ m + k = n ∧ m ≤ c' ∧ c' ≤ 9223372036854775807 ∧ x = .slice A' m c' ∧ Hid (Byt w A' m c' (l.drop k)) ∧ Hid (optsGo n l = optsGo (n - k) (l.drop k))) (fun x => match x with | .slice _ m _ => m | _ => 0)
      case atStart => exact ⟨0, A, n, c, Nat.zero_le _, by simp, hnc, hcc, rfl, HB, Lib.hid rfl⟩
      case round =>
        obtain ⟨k, A', m, c', hk, hmk, hmc, hc', rfl, HB', HG⟩ := hrel
        by_cases hlt : k < n
        · have hkl : k < l.length := by rw [HL.out]; exact hlt
          obtain ⟨x, hx⟩ : ∃ x, l[k]? = some x := ⟨_, List.getElem?_eq_getElem hkl⟩
          have hx0 : (l.drop k)[0]? = some x := by rw [List.getElem?_drop]; exact hx
          obtain ⟨b, o, rfl, -⟩ := HB'.out.2.2.2 (by omega)
          have hcell := byt_ge HB'.out 0 x hx0
          simp only [Nat.add_zero] at hcell
          have hxl := x.toNat_lt
          have hm0 : (0 : Int) < (m : Int) := by omega
          by_cases x0 : x = 0
          · subst x0
            have HZ := Lib.hid (show optsM l = true by rw [HR.out, HG.out, opts_zero l n k HL.out hlt hx])
            clear hx hx0
            go_wp2
            go_ret
            exact ⟨by rw [HZ.out]; rfl, rfl⟩
          · have b0 : ((x.toNat : Int) == 0) = false := by
              simp only [beq_eq_false_iff_ne, ne_eq]
              intro he
              exact x0 (UInt8.toNat_inj.1 (by show x.toNat = 0; omega))
            have HOL := iolen_yes _ m c' _ x w HB'.out hx0 (by omega)
            have hld : (l.drop k).length = m := by rw [List.length_drop, HL.out]; omega
            rcases (show (olenM (l.drop k) x = (0, false) ∧ optsGo n l = false) ∨ ∃ j, 1 ≤ j ∧ j ≤ m ∧ olenM (l.drop k) x = (j, true) ∧ optsGo n l = optsGo (n - (k + j)) (l.drop (k + j)) by
              by_cases x1 : x = 1
              · subst x1
                exact .inr ⟨1, Nat.le_refl _, by omega, by unfold olenM; rw [if_pos rfl], by rw [HG.out, opts_one l n k HL.out hlt hx]⟩
              · by_cases hlast : k + 1 < n
                · obtain ⟨y, hy⟩ : ∃ y, l[k + 1]? = some y := ⟨l[k + 1]'(by rw [HL.out]; exact hlast), List.getElem?_eq_getElem _⟩
                  have hy1 : (l.drop k)[1]? = some y := by rw [List.getElem?_drop]; exact hy
                  have hM := opts_more l n k x y HL.out hlast hx hy x0 x1
                  have hO : olenM (l.drop k) x = if y.toNat < 2 ∨ m < y.toNat then (0, false) else (y.toNat, true) := by unfold olenM; rw [if_neg x1, hy1, hld]
                  by_cases hc : y.toNat < 2 ∨ n < k + y.toNat
                  · exact .inl ⟨by rw [hO, if_pos (by omega)], by rw [HG.out, hM, if_pos hc]⟩
                  · exact .inr ⟨y.toNat, by omega, by omega, by rw [hO, if_neg (by omega)], by rw [HG.out, hM, if_neg hc]⟩
                · exact .inl ⟨by unfold olenM; rw [if_neg x1, List.getElem?_eq_none (by omega)], by rw [HG.out, opts_last l n k x HL.out (by omega) hx x0 x1]⟩) with ⟨hOL, hZ⟩ | ⟨j, hj1, hjm, hOL, hS⟩
            · rw [hOL] at HOL
              have HOL := Lib.hid HOL
              have HZ := Lib.hid (show optsM l = false by rw [HR.out, hZ])
              clear hx hx0 x0 hOL hZ hld
              go_wp2_with (fail)
              refine (HOL.out).mono ?_
              rintro e w1 ⟨rfl, rfl⟩
              go_wp2
              go_ret
              exact ⟨by rw [HZ.out]; rfl, rfl⟩
            · rw [hOL] at HOL
              have HOL := Lib.hid HOL
              have HS := Lib.hid hS
              have hcut := run_cut_lo (P := Try.prog) Try.underlying22 inf5.1 inf5.2 (some ⟨b, o, none⟩) m c' j (j : Int) rfl hjm
              have hB2 := HB'.out.cut (lo := j) (hi := m) hjm (Nat.le_refl _)
              rw [show ((l.drop k).take m).drop j = l.drop (k + j) by rw [show m = n - k by omega]; exact drop_cut l n k j HL.out] at hB2
              have HB2 := Lib.hid hB2
              clear hx hx0 x0 hOL hS hld hB2
              go_wp2_with (fail)
              refine (HOL.out).mono ?_
              rintro e w1 ⟨rfl, rfl⟩
              go_wp2
              go_round
              case rel => exact ⟨k + j, cutA (some ⟨b, o, none⟩) c' j, m - j, c' - j, by omega, by omega, by omega, by omega, rfl, HB2, HS⟩
              case measure => simp; omega
        · have hkn : k = n := by omega
          have hm0 : m = 0 := by omega
          subst hm0
          have HZ := Lib.hid (show optsM l = true by rw [HR.out, HG.out, hkn, Nat.sub_self]; rfl)
          go_wp2
          go_ret
          exact ⟨by rw [HZ.out]; rfl, rfl⟩
    · have h4' : ((n : Int) % 4 != 0) = true := by simp; omega
      have HR := Lib.hid (show optsM l = false by rw [HO.out, decide_eq_false (by omega)]; rfl)
      go_enter Try.func35, Try.ntmps35
      go_wp2
      go_ret
      exact ⟨by rw [HR.out]; rfl, rfl⟩
end Go.Proofs.Ytkpelaojjfcpfaa
namespace Go.Proofs.Ytkpelaojjfcpfaa
open Go.RowKit Go.Sort
set_option linter.unusedVariables false

/-- What Get and Cut answer. -/
def GetIs (w : World) (e : Ending) (w' : World) (r : Hd × List UInt8 × Int) : Prop := ∃ A1 n1 c1 A2 n2 c2, e = .returned (.tuple #[.agg (hcs r.1 A1 n1 c1).toArray, .slice A2 n2 c2, .int .i64 r.2.2]) ∧ NewB w w' A1 n1 c1 r.1.x ∧ NewB w w' A2 n2 c2 r.2.1 ∧ Kept Nil w w'
end Go.Proofs.Ytkpelaojjfcpfaa
