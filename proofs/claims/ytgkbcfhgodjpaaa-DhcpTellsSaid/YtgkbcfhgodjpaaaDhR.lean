/- tollref09: messages; contracts of Value, Number, Wide, Type. -/
import Derived.Test.YtgkbcfhgodjpaaaDhW
import Derived.Test.YtgkbcfhgodjpaaaEthT
namespace Go.Proofs.Ytgkbcfhgodjpaaa
open Go.RowKit Go.Sort
set_option linter.unusedVariables false

/-- The document's own message: its slices read. -/
structure RfIn (w : World) (h : Dh) (vh vo vb : Value) : Prop where
  hd : ∃ A n c, vh = .slice A n c ∧ Byt w A n c (headB h)
  o : ∃ A n c, vo = .slice A n c ∧ Opts (fun _ => True) .i64 w A n c h.os
  b : ∃ A n c, vb = .slice A n c ∧ Byt w A n c h.bh
theorem RfIn.nil {w w' : World} {h : Dh} {vh vo vb : Value} (a : RfIn w h vh vo vb) (q : Kept Nil w w') : RfIn w' h vh vo vb := by
  obtain ⟨⟨A1, n1, c1, e1, h1⟩, ⟨A2, n2, c2, e2, h2⟩, ⟨A3, n3, c3, e3, h3⟩⟩ := a
  exact ⟨⟨A1, n1, c1, e1, h1.kept q (fun _ _ hf => hf)⟩, ⟨A2, n2, c2, e2, h2.kept q (fun _ _ hf => hf)⟩, ⟨A3, n3, c3, e3, h3.kept q (fun _ _ hf => hf)⟩⟩
def rfv (vh vo vb : Value) : Value := .agg #[vh, vo, vb]
theorem RfIn.one {w : World} {h : Dh} {vh vo vb : Value} (a : RfIn w h vh vo vb) : ∀ u ∈ [vh, vo, vb], u.oneCell' = true := by
  obtain ⟨⟨A1, n1, c1, rfl, h1⟩, ⟨A2, n2, c2, rfl, h2⟩, ⟨A3, n3, c3, rfl, h3⟩⟩ := a
  intro u hu
  simp at hu
  rcases hu with rfl | rfl | rfl <;> rfl
theorem infRf (a b c : Value) : (Try.prog.info? 37).map (·.size) = some [a, b, c].length := by kernel_rfl
theorem valD_take (c : UInt8) (os : List Opn) (k : Nat) (h : k < os.length) : (valD c (os.take (k + 1))).1 = (valD c (os.take k)).1 ++ (if hasD c = true ∧ os[k].1 = c then os[k].2 else []) ∧ (valD c (os.take (k + 1))).2 = ((valD c (os.take k)).2 || (hasD c && decide (os[k].1 = c))) := by
  unfold valD
  cases hh : hasD c with
  | false => simp
  | true => simp [valM_take c os k h, isM_take c os k h]
theorem hasD_lt (c : UInt8) : hasD c = (decide ((0 : Int) < (c.toNat : Int)) && decide ((c.toNat : Int) < 255)) := by
  have h := c.toNat_lt
  unfold hasD
  rw [Bool.eq_iff_iff]
  simp only [decide_eq_true_eq, Bool.and_eq_true]
  constructor
  · rintro ⟨h0, h1⟩
    have h2 : c.toNat ≠ 0 := fun e => h0 (UInt8.toNat_inj.1 e)
    have h3 : c.toNat ≠ 255 := fun e => h1 (UInt8.toNat_inj.1 e)
    omega
  · rintro ⟨h0, h1⟩
    exact ⟨fun e => by subst e; simp at h0, fun e => by subst e; simp at h1⟩
set_option maxRecDepth 100000 in
set_option maxHeartbeats 4000000 in
theorem rvalue_yes (h : Dh) (vh vo vb : Value) (cd : UInt8) (w : World) (hI : RfIn w h vh vo vb) (ht : totM h.os ≤ 1099511627776) : Calls Try.prog 12 #[rfv vh vo vb, .int .i64 (cd.toNat : Int)] w fun e w' => ∃ v, e = .returned (.tuple #[v, .bool (valD cd h.os).2]) ∧ Made w w' v (valD cd h.os).1 := by
  have hP := Blo.new w 37 #[vh, vo, vb]
  have hk := (Kept.refl Nil w).alloc (.cells #[vh, vo, vb] 37)
  obtain ⟨i0, hi, hz0, hz1, hz2⟩ := info_parts Try.infb
  go_enter Try.func12, Try.ntmps12
  go_upto_region 1 with (fail)
  refine wp_nameE (fun W => Blo W w.heap.size 37 #[vh, vo, vb] ∧ Kept Nil w W) ⟨hP, hk⟩ ?_
  clear hP hk
  rintro W ⟨hP, hk⟩
  have HP := Lib.hid hP
  have HK := Lib.hid hk
  obtain ⟨A, n, c, rfl, hO⟩ := hI.o
  have HO := Lib.hid (hO.kept hk (fun _ _ hf => hf))
  have hnc := hO.lt.1
  have hcc := hO.lt.2
  have HL := Lib.hid hO.len
  have HT := Lib.hid ht
  have HHL := Lib.hid (hasD_lt cd)
  clear hP hk hO hI ht
  go_wp2
  go_loopw [6, 7, 8] (fun v b i wr => ∃ k : Nat, k ≤ n ∧ i = .int .i64 (k : Int) ∧ b = .bool (valD cd (h.os.take k)).2 ∧ wr.ownsRow W.heap.size 5 1 v (valD cd (h.os.take k)).1.length (bys (valD cd (h.os.take k)).1) ∧ Kept Nil W wr) (fun _ _ i _ => n - (intOf i).toNat)
  case atStart =>
    have e0 : valD cd (h.os.take 0) = ([], false) := by unfold valD; split <;> rfl
    refine ⟨0, Nat.zero_le _, rfl, by rw [e0], ?_, Kept.refl _ _⟩
    rw [e0]
    exact World.ownsRow_nil _ _ _ _
  case round =>
    obtain ⟨k, hk, rfl, rfl, hown, hkp⟩ := hrel
    have q := (HP.out.kept hkp (fun hf => hf)).cell 1
    simp at q
    by_cases hlt : k < n
    · have hkl : k < h.os.length := by rw [HL.out]; exact hlt
      have HV1 := Lib.hid (valD_take cd h.os k hkl)
      have HLE := Lib.hid (show (valD cd (h.os.take (k + 1))).1.length ≤ 1099511627776 from Nat.le_trans (Nat.le_trans (valD_le cd (h.os.take (k + 1))) (totM_take h.os (k + 1))) HT.out)
      obtain ⟨b, o, A', m, c', rfl, hrow, hby, -⟩ := (HO.out.kept hkp (fun _ _ hf => hf)).at hkl
      have q0 := hrow 0 _ rfl
      have q1 := hrow 1 _ rfl
      rw [Nat.add_zero] at q0
      generalize h.os[k] = op at *
      obtain ⟨oc, ov⟩ := op
      simp only at q0
      have HW := Lib.hid hown
      have HKP := Lib.hid hkp
      have HBY := Lib.hid hby
      have ec : ((oc.toNat : Int) == (cd.toNat : Int)) = decide (oc = cd) := u8_eq oc cd
      clear hown hkp hrow hby
      by_cases hc : oc = cd
      · rw [show decide (oc = cd) = true by simp [hc]] at ec
        by_cases hlo : (0 : Int) < (cd.toNat : Int)
        · have elo : decide ((0 : Int) < (cd.toNat : Int)) = true := by simpa using hlo
          by_cases hhi : (cd.toNat : Int) < 255
          · have ehi : decide ((cd.toNat : Int) < 255) = true := by simpa using hhi
            have hh : hasD cd = true := by rw [HHL.out, elo, ehi]; rfl
            have h1 := HV1.out
            simp only [hc, hh, and_self, if_true, decide_true, Bool.and_true, Bool.or_true] at h1
            have HH1 := Lib.hid h1.1
            have HH2 := Lib.hid h1.2
            have HSZ := Lib.hid (show W.heap.size ≤ wr.heap.size from HKP.out.size)
            have HBD := Lib.hid (show (valD cd (h.os.take k)).1.length + m ≤ 140737488355328 by have := HLE.out; rw [h1.1, List.length_append] at this; have := HBY.out.1; simp only at this; omega)
            clear h1 HV1 hc hh HHL
            go_wp2_with (at_builtin; refine wpList_any rfl _ _ 31 rfl W.heap.size 5 i0 (.int .u8 0) Try.underlying31 hi hz0 hz1 hz2 rfl _ _ _ rfl HW.out _ _ _ ov rfl HBY.out HBD.out HSZ.out ?_; intro v' w1 hown' hgr _)
            have hk1 : Kept Nil W w1 := HKP.out.grown hgr (fun j hj hj' => absurd hj' (by have := own_ge1 HW.out j hj; omega))
            have HO1 := Lib.hid hown'
            have HK1 := Lib.hid hk1
            clear hown' hgr hk1
            go_wp2
            go_roundw
            case rel => exact ⟨k + 1, by omega, by go_num, by rw [HH2.out], by rw [HH1.out, bys_app, List.length_append]; have := HBY.out.1; simp only at this; rw [this]; exact HO1.out, HK1.out⟩
            case measure => simp [intOf]; omega
          · have ehi : decide ((cd.toNat : Int) < 255) = false := by simpa using hhi
            have hh : hasD cd = false := by rw [HHL.out, elo, ehi]; rfl
            have h1 := HV1.out
            simp only [hh, Bool.false_eq_true, false_and, if_false, List.append_nil, Bool.false_and, Bool.or_false] at h1
            rw [← h1.1] at HW
            rw [← h1.2]
            clear h1 hc HV1 hh HHL
            go_wp2
            go_roundw
            case rel => exact ⟨k + 1, by omega, by go_num, rfl, HW.out, HKP.out⟩
            case measure => simp [intOf]; omega
        · have elo : decide ((0 : Int) < (cd.toNat : Int)) = false := by simpa using hlo
          have hh : hasD cd = false := by rw [HHL.out, elo]; rfl
          have h1 := HV1.out
          simp only [hh, Bool.false_eq_true, false_and, if_false, List.append_nil, Bool.false_and, Bool.or_false] at h1
          rw [← h1.1] at HW
          rw [← h1.2]
          clear h1 hc HV1 hh HHL
          go_wp2
          go_roundw
          case rel => exact ⟨k + 1, by omega, by go_num, rfl, HW.out, HKP.out⟩
          case measure => simp [intOf]; omega
      · rw [show decide (oc = cd) = false by simp [hc]] at ec
        have h1 := HV1.out
        simp only [hc, and_false, if_false, List.append_nil, decide_false, Bool.and_false, Bool.or_false] at h1
        rw [← h1.1] at HW
        rw [← h1.2]
        clear h1 hc HV1 HHL
        go_wp2
        go_roundw
        case rel => exact ⟨k + 1, by omega, by go_num, rfl, HW.out, HKP.out⟩
        case measure => simp [intOf]; omega
    · obtain rfl : k = n := by omega
      have e1 : h.os.take k = h.os := List.take_of_length_le (by rw [HL.out]; exact Nat.le_refl _)
      rw [e1] at hown ⊢
      have HW := Lib.hid hown
      have HKP := Lib.hid hkp
      clear hown hkp hlt e1
      go_wp2
      go_ret2
      exact ⟨_, rfl, own_mono HW.out HK.out.size, HK.out.then HKP.out⟩
end Go.Proofs.Ytgkbcfhgodjpaaa
