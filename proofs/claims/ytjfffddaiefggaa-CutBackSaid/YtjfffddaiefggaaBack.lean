/- tolllaw01.CutBack: the walk. -/
import Derived.Test.YtjfffddaiefggaaBackM
import Derived.Test.YtjfffddaiefggaaStays
import Derived.Deep.DeepCutAuto
import Derived.Deep.CutRange
import Derived.Deep.CutBlock
namespace Go.Proofs.Ytjfffddaiefggaa
open Go.RowKit
set_option linter.unusedVariables false

/-- With le bytes less: so far all was there, or it has failed already; with none less it never fails. -/
def Less2 (ts : List ThD) (N le k : Nat) (s : Cst) : Prop := Less ts (N - le) k s ∧ (le = 0 → s.er = 0)
theorem less2_next (ts : List ThD) (N le k : Nat) (h : k < ts.length) (hN : N = (flat ts).length) (s : Cst) (hs : Less2 ts N le k s) (x : Int) (hx : x = ((bytesOf ts[k]).length : Int)) :
    Less2 ts N le (k + 1) (takeM s x).2 ∧ (le = 0 → (takeM s x).1 = bytesOf ts[k]) := by
  have hn := less_next ts (N - le) k h (by omega) s hs.1 x hx
  have key : le = 0 → takeM s x = (bytesOf ts[k], ⟨flat ts, (flat (ts.take (k + 1))).length, 0⟩) := by
    intro hle
    have he := hs.2 hle
    obtain ⟨l, p, er⟩ := s
    obtain ⟨⟨hl, hd⟩, _⟩ := hs
    simp only at hl hd he
    subst he
    rcases hd with ⟨_, hp⟩ | hd
    · subst hl hp
      rw [hle, Nat.sub_zero, hN, List.take_length]
      exact take_full ts k h x hx
    · cases hd
  exact ⟨⟨hn, fun hle => by rw [key hle]⟩, fun hle => by rw [key hle]⟩

theorem infT : ∃ i, Try.prog.info? 66 = some i := ⟨(Try.prog.info? 66).getD default, by kernel_rfl⟩

set_option maxRecDepth 100000 in
set_option maxHeartbeats 4000000 in
theorem back_all (A : Option Addr) (n0 c : Nat) (ts0 : List ThD) (w : World) (h0 : Thgs w A n0 c ts0) :
    Calls Try.prog 5 #[.slice A n0 c] w fun e w' => e = .returned (.bool true) ∧ Below w.heap.size w w' := by
  have hnc := h0.2.1
  have hcc := h0.2.2.1
  obtain ⟨n, hmin, hpm, hs60⟩ : ∃ n : Nat, (if (60 : Int) < (n0 : Int) then (60 : Int) else (n0 : Int)) = (n : Int) ∧ n ≤ n0 ∧ n ≤ 60 := ⟨min n0 60, by split <;> omega, by omega, by omega⟩
  obtain ⟨iT, hiT⟩ := infT
  have hslt := run_cut_hi (P := Try.prog) Try.underlying64 hiT A n0 c n (n : Int) rfl (by omega)
  have h := h0.pre hpm
  generalize ts0.take n = ts at h
  have HH := Lib.hid h
  have hlen := h.1
  have HL := Lib.hid hlen
  clear h hlen h0
  go_enter Try.func5, Try.ntmps5
  go_wp2_with fail
  refine (Lay_yes _).mono ?_
  rintro e w1 ⟨rfl, hp1, hk1⟩
  obtain ⟨s0, hs0⟩ : ∃ s0, s0 = w.heap.size := ⟨_, rfl⟩
  rw [← hs0] at hp1 ⊢
  have HP1 := Lib.hid hp1
  have HK1 := Lib.hid hk1
  have HS0 := Lib.hid hs0
  clear hp1 hk1 hs0 hmin hslt hiT
  go_wp2
  go_loopw [24] (fun i wr => ∃ (k : Nat) (v' : Value), k ≤ n ∧ i = .int .i64 k ∧ Padd wr s0 s0 v' (flat (ts.take k)) ∧ Kept Nil w wr) (fun i _ => n - (intOf i).toNat)
  case atStart => exact ⟨0, _, Nat.zero_le _, rfl, by simpa [flat] using HP1.out, HK1.out⟩
  case round =>
    obtain ⟨k, v', hk, rfl, hp, hkp⟩ := hrel
    by_cases hlt : k < n
    · have hth := HH.out.kept hkp
      have hkl : k < ts.length := by rw [HL.out]; exact hlt
      obtain ⟨b, o, rfl, hce⟩ := hth.2.2.2.2 (by omega)
      obtain ⟨q0, q1, q2⟩ := hce k hkl
      have hok := HH.out.2.2.2.1 _ (List.getElem_mem hkl)
      have hsn := flat_snoc ts k hkl
      have hfl : (flat (ts.take k)).length ≤ 1000000 := by have := flat_len2 (ts.take k); simp at this; omega
      clear hce hth
      generalize ht : ts[k] = t at *
      obtain ⟨kd, v, tB, bn, bc, tb⟩ := t
      simp only at q0 q1 q2
      obtain ⟨hkd, hvd, hby⟩ := hok
      simp only at hkd hvd hby
      have HSN := Lib.hid hsn
      have HFL := Lib.hid hfl
      have HT := Lib.hid ht
      have HP := Lib.hid hp
      have HK := Lib.hid hkp
      have HBY := Lib.hid hby
      have hbn := hby.2.1
      have hbc := hby.2.2.1
      clear hsn hfl ht hp hkp hby
      rcases (show (kd : Int) % 5 = 0 ∨ (kd : Int) % 5 = 1 ∨ (kd : Int) % 5 = 2 ∨ (kd : Int) % 5 = 3 ∨ (kd : Int) % 5 = 4 by omega) with h5 | h5 | h5 | h5 | h5
      · go_wp2_with fail
        refine (PByte_at s0 s0 _ v' _ (v % 256) _ ?_ _ _ ?_ ?_ ?_ HFL.out ?_).mono ?_
        · omega
        · simp
        · exact HP.out.kept (((Kept.refl Nil wr).alloc _).alloc _) (fun _ _ hf => hf)
        · have := HK.out.size; have := HS0.out; simp; omega
        · omega
        rintro e w2 ⟨v2, rfl, hp2, hk2, hn2⟩
        rw [← bytesOf0 (t := ⟨kd, v, tB, bn, bc, tb⟩) h5, ← HSN.out] at hp2
        have K2 := Lib.hid (((HK.out.alloc _).alloc _).fresh hk2 (fun i hi => by have := HP.out.foot_ge _ hi; have := HS0.out; omega))
        have HP2 := Lib.hid hp2
        clear hp2 hk2 hn2
        go_wp2
        go_roundw
        case rel => exact ⟨k + 1, v2, by omega, by go_num, HP2.out, K2.out⟩
        case measure => simp [intOf]; omega
      · go_wp2_with fail
        refine (PTwo_at s0 s0 _ v' _ (v % 65536) _ ?_ _ _ ?_ ?_ ?_ HFL.out ?_).mono ?_
        · simp [IntKind.wrap, IntKind.bits, IntKind.signed]
        · simp
        · exact HP.out.kept (((Kept.refl Nil wr).alloc _).alloc _) (fun _ _ hf => hf)
        · have := HK.out.size; have := HS0.out; simp; omega
        · omega
        rintro e w2 ⟨v2, rfl, hp2, hk2, hn2⟩
        rw [← bytesOf1 (t := ⟨kd, v, tB, bn, bc, tb⟩) h5, ← HSN.out] at hp2
        have K2 := Lib.hid (((HK.out.alloc _).alloc _).fresh hk2 (fun i hi => by have := HP.out.foot_ge _ hi; have := HS0.out; omega))
        have HP2 := Lib.hid hp2
        clear hp2 hk2 hn2
        go_wp2
        go_roundw
        case rel => exact ⟨k + 1, v2, by omega, by go_num, HP2.out, K2.out⟩
        case measure => simp [intOf]; omega
      · go_wp2_with fail
        refine (PFour_at s0 s0 _ v' _ v _ ?_ _ _ ?_ ?_ ?_ HFL.out ?_).mono ?_
        · omega
        · simp
        · exact HP.out.kept (((Kept.refl Nil wr).alloc _).alloc _) (fun _ _ hf => hf)
        · have := HK.out.size; have := HS0.out; simp; omega
        · omega
        rintro e w2 ⟨v2, rfl, hp2, hk2, hn2⟩
        rw [← bytesOf2 (t := ⟨kd, v, tB, bn, bc, tb⟩) h5, ← HSN.out] at hp2
        have K2 := Lib.hid (((HK.out.alloc _).alloc _).fresh hk2 (fun i hi => by have := HP.out.foot_ge _ hi; have := HS0.out; omega))
        have HP2 := Lib.hid hp2
        clear hp2 hk2 hn2
        go_wp2
        go_roundw
        case rel => exact ⟨k + 1, v2, by omega, by go_num, HP2.out, K2.out⟩
        case measure => simp [intOf]; omega
      · go_wp2_with fail
        refine (PMac_at s0 s0 _ v' _ (macOf v) rfl _ ?_ _ _ ?_ ?_ ?_ HFL.out).mono ?_
        · exact macOf_cells v
        · simp
        · exact HP.out.kept (((Kept.refl Nil wr).alloc _).alloc _) (fun _ _ hf => hf)
        · have := HK.out.size; have := HS0.out; simp; omega
        rintro e w2 ⟨v2, rfl, hp2, hk2, hn2⟩
        rw [← bytesOf3 (t := ⟨kd, v, tB, bn, bc, tb⟩) h5, ← HSN.out] at hp2
        have K2 := Lib.hid (((HK.out.alloc _).alloc _).fresh hk2 (fun i hi => by have := HP.out.foot_ge _ hi; have := HS0.out; omega))
        have HP2 := Lib.hid hp2
        clear hp2 hk2 hn2
        go_wp2
        go_roundw
        case rel => exact ⟨k + 1, v2, by omega, by go_num, HP2.out, K2.out⟩
        case measure => simp [intOf]; omega
      · by_cases h40 : bn ≤ 40
        · have hbb : Byt w tB bn bc tb := HBY.out
          go_wp2_with fail
          refine (PByte_yes s0 s0 v' (flat (ts.take k)) tB bn bc (tb.map UInt8.toNat) _ ?_ ?_ ?_ ?_ ?_ ?_).mono ?_
          · exact HP.out.kept (((Kept.refl Nil wr).alloc _).alloc _) (fun _ _ hf => hf)
          · exact (hbb.kept ((HK.out.alloc _).alloc _) (fun _ _ hf => hf)).nums
          · have := HK.out.size; have := HS0.out; simp; omega
          · intro i hi hf
            have h1 := HP.out.foot_ge _ hf
            have h2 := hbb.lt i hi
            have := HS0.out
            omega
          · have := HFL.out; omega
          · intro z hz
            simp only [List.mem_map] at hz
            obtain ⟨b', _, rfl⟩ := hz
            have := b'.toNat_lt
            omega
          rintro e w2 ⟨v2, rfl, hp2, hk2, hn2⟩
          rw [beAll_bytes] at hp2
          have hp3 : Padd w2 s0 s0 v2 (flat (ts.take (k + 1))) := by rw [HSN.out, bytesOf4 (t := ⟨kd, v, tB, bn, bc, tb⟩) h5]; have ht4 : tb.take 40 = tb := List.take_of_length_le (by rw [HBY.out.1]; omega); show Padd _ _ _ _ (flat (ts.take k) ++ tb.take 40); rw [ht4]; exact hp2
          have K2 := Lib.hid (((HK.out.alloc _).alloc _).fresh hk2 (fun i hi => by have := HP.out.foot_ge _ hi; have := HS0.out; omega))
          have HP2 := Lib.hid hp3
          clear hp2 hk2 hn2 hp3 hbb
          go_wp2
          go_roundw
          case rel => exact ⟨k + 1, v2, by omega, by go_num, HP2.out, K2.out⟩
          case measure => simp [intOf]; omega
        · have hbb : Byt w tB 40 bc (tb.take 40) := HBY.out.pre (by omega)
          go_wp2_with fail
          refine (PByte_yes s0 s0 v' (flat (ts.take k)) tB 40 bc ((tb.take 40).map UInt8.toNat) _ ?_ ?_ ?_ ?_ ?_ ?_).mono ?_
          · exact HP.out.kept (((Kept.refl Nil wr).alloc _).alloc _) (fun _ _ hf => hf)
          · exact (hbb.kept ((HK.out.alloc _).alloc _) (fun _ _ hf => hf)).nums
          · have := HK.out.size; have := HS0.out; simp; omega
          · intro i hi hf
            have h1 := HP.out.foot_ge _ hf
            have h2 := hbb.lt i hi
            have := HS0.out
            omega
          · have := HFL.out; omega
          · intro z hz
            simp only [List.mem_map] at hz
            obtain ⟨b', _, rfl⟩ := hz
            have := b'.toNat_lt
            omega
          rintro e w2 ⟨v2, rfl, hp2, hk2, hn2⟩
          rw [beAll_bytes] at hp2
          have hp3 : Padd w2 s0 s0 v2 (flat (ts.take (k + 1))) := by rw [HSN.out, bytesOf4 (t := ⟨kd, v, tB, bn, bc, tb⟩) h5]; exact hp2
          have K2 := Lib.hid (((HK.out.alloc _).alloc _).fresh hk2 (fun i hi => by have := HP.out.foot_ge _ hi; have := HS0.out; omega))
          have HP2 := Lib.hid hp3
          clear hp2 hk2 hn2 hp3 hbb
          go_wp2
          go_roundw
          case rel => exact ⟨k + 1, v2, by omega, by go_num, HP2.out, K2.out⟩
          case measure => simp [intOf]; omega
    · have hfull : ts.take k = ts := List.take_of_length_le (by rw [HL.out]; omega)
      rw [hfull] at hp
      have HP := Lib.hid hp
      have HK := Lib.hid hkp
      clear hp hkp hfull
      have hF40 : (flat ts).length ≤ 1000000 := by have := flat_len2 ts; have := HL.out; omega
      obtain ⟨N, hN⟩ : ∃ N, N = (flat ts).length := ⟨_, rfl⟩
      rw [← hN] at hF40
      have HN := Lib.hid hN
      clear hN
      go_wp2_with fail
      refine (Done_yes s0 s0 v' _ _ HP.out (by have := HN.out; omega)).mono ?_
      rintro e w2 ⟨vb, rfl, hm2⟩
      obtain ⟨ho2, hk2⟩ := hm2
      rw [← HN.out] at ho2
      obtain ⟨Ab, cb, rfl, hb2, _⟩ := Byt.of_own ho2
      have K2 := Lib.hid (HK.out.then hk2)
      have HB2 := Lib.hid hb2
      have hcb : N ≤ cb := hb2.2.1
      have hcb2 : cb ≤ 9223372036854775807 := hb2.2.2.1
      clear ho2 hk2 hb2 HP HK
      go_wp2
      go_loopw [80] (fun i wr => ∃ (le : Nat), le ≤ 2 ∧ i = .int .i64 le ∧ Kept Nil w wr ∧ Byt wr Ab N cb (flat ts)) (fun i _ => 2 - (intOf i).toNat)
      case atStart => exact ⟨0, by omega, rfl, K2.out, HB2.out⟩
      case round =>
        obtain ⟨le, hle, rfl, hkp, hbb⟩ := hrel
        have HK := Lib.hid hkp
        have HBB := Lib.hid hbb
        clear hkp hbb
        by_cases hl2 : le = 2
        · subst hl2
          go_wp2_with fail
          refine (wakes_yes _).mono ?_
          rintro e w9 ⟨rfl, hk9⟩
          go_wp2
          go_ret
          exact ⟨rfl, (HK.out.then hk9).below (Nat.le_refl _) (fun k hf => hf.elim)⟩
        · have hle1 : le ≤ 1 := by omega
          have hlt2 : (le : Int) < 2 := by omega
          by_cases hN1 : N < le
          · go_wp2_with fail
            refine (wakes_yes _).mono ?_
            rintro e w9 ⟨rfl, hk9⟩
            go_wp2
            go_ret
            exact ⟨rfl, (HK.out.then hk9).below (Nat.le_refl _) (fun k hf => hf.elim)⟩
          · have hsl1 := run_cut_hi (P := Try.prog) Try.underlying22 inf5.1 Ab N cb (N - le) ((N : Int) - le) (by omega) (by omega)
            go_wp2_with fail
            refine (new_yes Ab (N - le) cb _ _ (HBB.out.pre (by omega)) (by omega)).mono ?_
            rintro e w3 ⟨g, A3, c3, rfl, hc3, hk3, hg3, hl3⟩
            have hg3' : w.heap.size ≤ g := Nat.le_trans HK.out.size hg3
            have HC3 := Lib.hid hc3
            have K3 := Lib.hid (HK.out.then hk3)
            have HB3 := Lib.hid (HBB.out.kept hk3 (fun _ _ hf => hf))
            have HG3 : Hid (∀ i, Lies Ab N i → i ≠ g) := fun i hi => by have := HBB.out.lt i hi; omega
            clear hc3 hk3 hg3 hl3 hsl1
            go_wp2
            obtain ⟨wo, rfl⟩ : ∃ wo : World, wo = wr := ⟨_, rfl⟩
            go_loopw [96, 10] (fun i y wr => ∃ (k : Nat) (s : Cst) (x : Int), k ≤ n ∧ i = .int .i64 k ∧ y = .int .i64 x ∧ 0 ≤ x ∧ x ≤ k ∧ (le = 0 → x = 0) ∧ Kept Nil w wr ∧ Byt wr Ab N cb (flat ts) ∧ Cutr wr g A3 (N - le) c3 s ∧ Less2 ts N le k s) (fun i _ _ => n - (intOf i).toNat)
            case atStart => exact ⟨0, _, 0, Nat.zero_le _, rfl, rfl, by omega, by omega, fun _ => rfl, K3.out, HB3.out, HC3.out, ⟨rfl, .inl ⟨rfl, rfl⟩⟩, fun _ => rfl⟩
            case round =>
              obtain ⟨k, s, x, hk, rfl, rfl, hx0, hx1, hx2, hkp, hbb, hct, hls⟩ := hrel
              have HX2 := Lib.hid hx2
              clear hx2
              by_cases hlt : k < n
              · have hth := HH.out.kept hkp
                have hkl : k < ts.length := by rw [HL.out]; exact hlt
                obtain ⟨b, o, rfl, hce⟩ := hth.2.2.2.2 (by omega)
                obtain ⟨q0, q1, q2⟩ := hce k hkl
                have hok := HH.out.2.2.2.1 _ (List.getElem_mem hkl)
                have htf := fun x hx => less2_next ts N le k hkl HN.out s hls x hx
                have hgl : g < wr.heap.size := hct.blo.lt
                clear hce hth
                generalize ht : ts[k] = t at *
                obtain ⟨kd, v, tB, bn, bc, tb⟩ := t
                simp only at q0 q1 q2
                obtain ⟨hkd, hvd, hby⟩ := hok
                simp only at hkd hvd hby
                have hbn := hby.2.1
                have hbc := hby.2.2.1
                obtain ⟨pm, hmin, hpm, hpe⟩ : ∃ pm : Nat, (if (40 : Int) < (bn : Int) then (40 : Int) else (bn : Int)) = (pm : Int) ∧ pm ≤ bn ∧ pm = min bn 40 := ⟨min bn 40, by split <;> omega, by omega, rfl⟩
                have hslp := run_cut_hi (P := Try.prog) Try.underlying22 inf5.1 tB bn bc pm (pm : Int) rfl (by omega)
                have HPE := Lib.hid hpe
                have HTF := Lib.hid htf
                have HT := Lib.hid ht
                have HCT := Lib.hid hct
                have HKP := Lib.hid hkp
                have HBP := Lib.hid hbb
                have HBY := Lib.hid hby
                clear htf ht hct hkp hbb hby hpe hls
                go_upto_block 7 with (fail)
                go_cut [15, 117] (fun ok _ wx => ∃ (bb : Bool) (s5 : Cst), ok = .bool bb ∧ (le = 0 → bb = true) ∧ Kept Nil w wx ∧ Byt wx Ab N cb (flat ts) ∧ Cutr wx g A3 (N - le) c3 s5 ∧ Less2 ts N le (k + 1) s5)
                case first =>
                  clear q0 q1 q2
                  rcases (show (kd : Int) % 5 = 0 ∨ (kd : Int) % 5 = 1 ∨ (kd : Int) % 5 = 2 ∨ (kd : Int) % 5 = 3 ∨ (kd : Int) % 5 = 4 by omega) with h5 | h5 | h5 | h5 | h5
                  · obtain ⟨hnx, hbo⟩ := HTF.out 1 (by rw [bytesOf0 (t := ⟨kd, v, tB, bn, bc, tb⟩) h5, beAll_len]; rfl)
                    have hnum : le = 0 → (numM (takeM s 1).1 : Int) = IntKind.u8.wrap (v : Int) := fun hz => by rw [hbo hz, bytesOf0 (t := ⟨kd, v, tB, bn, bc, tb⟩) h5, numM1 (v % 256) (by omega), IntKind.wrap_u8]; omega
                    generalize hs5 : (takeM s 1).2 = s5 at hnx
                    generalize hr5 : numM (takeM s 1).1 = r5 at hnum
                    have HNUM := Lib.hid hnum
                    have HS5 := Lib.hid hs5
                    have HR5 := Lib.hid hr5
                    have HNX := Lib.hid hnx
                    clear hnx hs5 hr5 hnum hbo
                    go_wp2_with fail
                    go_region_law (go_simp; go_at_call 11; refine (Byte_yes g A3 (N - le) c3 _ _ (by exact (HCT.out.kept (((Kept.refl Nil wr).alloc _).alloc _) (fun hf => hf) (fun _ _ hf => hf)).heap rfl)).mono ?_; rintro e w5 ⟨rfl, hc5, hk5⟩; rw [HR5.out]; rw [HS5.out] at hc5; have HC5 := Lib.hid hc5; have HK5 := Lib.hid hk5; obtain ⟨z1, z2, z3⟩ := th_cells (q := 1) hk5 hgl; clear z3 hc5 hk5)
                    all_goals
                      have hKw : Kept (One g) wr w5 := ((((Kept.refl (One g) wr).alloc _).alloc _).drewN 1).same HK5.out
                      have K5 := HKP.out.fresh hKw (fun i hi => by cases hi; exact hg3')
                      have B5 := HBP.out.kept hKw (fun i hi hf => HG3.out i hi hf)
                      have HF := Lib.hid (And.intro K5 B5)
                      clear hKw K5 B5
                      go_wp2
                      go_meet
                      exact ⟨((r5 : Int) == IntKind.u8.wrap (v : Int)), s5, rfl, fun hz => by simp [HNUM.out hz], HF.out.1, HF.out.2, HC5.out, HNX.out⟩
                  · obtain ⟨hnx, hbo⟩ := HTF.out 2 (by rw [bytesOf1 (t := ⟨kd, v, tB, bn, bc, tb⟩) h5, beAll_len]; rfl)
                    have hnum : le = 0 → (numM (takeM s 2).1 : Int) = IntKind.u16.wrap (v : Int) := fun hz => by rw [hbo hz, bytesOf1 (t := ⟨kd, v, tB, bn, bc, tb⟩) h5, numM2 (v % 65536) (by omega)]; simp [IntKind.wrap, IntKind.bits, IntKind.signed]
                    generalize hs5 : (takeM s 2).2 = s5 at hnx
                    generalize hr5 : numM (takeM s 2).1 = r5 at hnum
                    have HNUM := Lib.hid hnum
                    have HS5 := Lib.hid hs5
                    have HR5 := Lib.hid hr5
                    have HNX := Lib.hid hnx
                    clear hnx hs5 hr5 hnum hbo
                    go_wp2_with fail
                    go_region_law (go_simp; go_at_call 13; refine (Two_yes g A3 (N - le) c3 _ _ (by exact (HCT.out.kept (((Kept.refl Nil wr).alloc _).alloc _) (fun hf => hf) (fun _ _ hf => hf)).heap rfl)).mono ?_; rintro e w5 ⟨rfl, hc5, hk5⟩; rw [HR5.out]; rw [HS5.out] at hc5; have HC5 := Lib.hid hc5; have HK5 := Lib.hid hk5; obtain ⟨z1, z2, z3⟩ := th_cells (q := 1) hk5 hgl; clear z3 hc5 hk5)
                    all_goals
                      have hKw : Kept (One g) wr w5 := ((((Kept.refl (One g) wr).alloc _).alloc _).drewN 1).same HK5.out
                      have K5 := HKP.out.fresh hKw (fun i hi => by cases hi; exact hg3')
                      have B5 := HBP.out.kept hKw (fun i hi hf => HG3.out i hi hf)
                      have HF := Lib.hid (And.intro K5 B5)
                      clear hKw K5 B5
                      go_wp2
                      go_meet
                      exact ⟨((r5 : Int) == IntKind.u16.wrap (v : Int)), s5, rfl, fun hz => by simp [HNUM.out hz], HF.out.1, HF.out.2, HC5.out, HNX.out⟩
                  · obtain ⟨hnx, hbo⟩ := HTF.out 4 (by rw [bytesOf2 (t := ⟨kd, v, tB, bn, bc, tb⟩) h5, beAll_len]; rfl)
                    have hnum : le = 0 → (numM (takeM s 4).1 : Int) = (v : Int) := fun hz => by rw [hbo hz, bytesOf2 (t := ⟨kd, v, tB, bn, bc, tb⟩) h5, numM4 v (by omega)]
                    generalize hs5 : (takeM s 4).2 = s5 at hnx
                    generalize hr5 : numM (takeM s 4).1 = r5 at hnum
                    have HNUM := Lib.hid hnum
                    have HS5 := Lib.hid hs5
                    have HR5 := Lib.hid hr5
                    have HNX := Lib.hid hnx
                    clear hnx hs5 hr5 hnum hbo
                    go_wp2_with fail
                    go_region_law (go_simp; go_at_call 14; refine (Four_yes g A3 (N - le) c3 _ _ (by exact (HCT.out.kept (((Kept.refl Nil wr).alloc _).alloc _) (fun hf => hf) (fun _ _ hf => hf)).heap rfl)).mono ?_; rintro e w5 ⟨rfl, hc5, hk5⟩; rw [HR5.out]; rw [HS5.out] at hc5; have HC5 := Lib.hid hc5; have HK5 := Lib.hid hk5; obtain ⟨z1, z2, z3⟩ := th_cells (q := 1) hk5 hgl; clear z3 hc5 hk5)
                    all_goals
                      have hKw : Kept (One g) wr w5 := ((((Kept.refl (One g) wr).alloc _).alloc _).drewN 1).same HK5.out
                      have K5 := HKP.out.fresh hKw (fun i hi => by cases hi; exact hg3')
                      have B5 := HBP.out.kept hKw (fun i hi hf => HG3.out i hi hf)
                      have HF := Lib.hid (And.intro K5 B5)
                      clear hKw K5 B5
                      go_wp2
                      go_meet
                      exact ⟨((r5 : Int) == (v : Int)), s5, rfl, fun hz => by simp [HNUM.out hz], HF.out.1, HF.out.2, HC5.out, HNX.out⟩
                  · obtain ⟨hnx, hbo⟩ := HTF.out 6 (by rw [bytesOf3 (t := ⟨kd, v, tB, bn, bc, tb⟩) h5]; rfl)
                    have hmc : le = 0 → macM (takeM s 6).1 = macOf v := fun hz => by rw [hbo hz, bytesOf3 (t := ⟨kd, v, tB, bn, bc, tb⟩) h5]; rfl
                    generalize hs5 : (takeM s 6).2 = s5 at hnx
                    have hr6 := macM_len (takeM s 6).1 (takeM_len2 s 6)
                    generalize hr5 : macM (takeM s 6).1 = r5 at hr6 hmc
                    obtain ⟨x0, x1, x2, x3, x4, x5, rfl⟩ := six_of _ hr6
                    have heq := eq_mac [x0, x1, x2, x3, x4, x5] (macOf v) rfl rfl
                    rw [← macOf_cells] at heq
                    have heq2 : ∀ w, (Op.equalIn 10000 39 (.agg #[.int .u8 (x0.toNat : Int), .int .u8 (x1.toNat : Int), .int .u8 (x2.toNat : Int), .int .u8 (x3.toNat : Int), .int .u8 (x4.toNat : Int), .int .u8 (x5.toNat : Int)]) (.agg #[.int .u8 ((v : Int) % 256), .int .u8 ((v : Int) / 256 % 256), .int .u8 2, .int .u8 3, .int .u8 4, .int .u8 5])).run Try.prog w = .ok ([x0, x1, x2, x3, x4, x5] == macOf v) w := heq
                    have hr7 : (bys (macM (takeM s 6).1)).toArray = #[.int .u8 (x0.toNat : Int), .int .u8 (x1.toNat : Int), .int .u8 (x2.toNat : Int), .int .u8 (x3.toNat : Int), .int .u8 (x4.toNat : Int), .int .u8 (x5.toNat : Int)] := by rw [hr5]; rfl
                    have hbt : le = 0 → ([x0, x1, x2, x3, x4, x5] == macOf v) = true := fun hz => by rw [hmc hz]; simp
                    generalize ([x0, x1, x2, x3, x4, x5] == macOf v) = bb at heq2 hbt
                    have HBT := Lib.hid hbt
                    have HS5 := Lib.hid hs5
                    have HR5 := Lib.hid hr7
                    have HNX := Lib.hid hnx
                    clear hnx hs5 hr5 heq hr6 hr7 hbt hmc hbo
                    go_wp2_with fail
                    go_region_law (go_simp; go_at_call 15; refine (Mac_yes g A3 (N - le) c3 _ _ (by exact (HCT.out.kept (((Kept.refl Nil wr).alloc _).alloc _) (fun hf => hf) (fun _ _ hf => hf)).heap rfl)).mono ?_; rintro e w5 ⟨rfl, hc5, hk5⟩; rw [HR5.out]; rw [HS5.out] at hc5; have HC5 := Lib.hid hc5; have HK5 := Lib.hid hk5; obtain ⟨z1, z2, z3⟩ := th_cells (q := 1) hk5 hgl; have y0 := z3 0; have y1 := z3 1; have y2 := z3 2; have y3 := z3 3; have y4 := z3 4; have y5 := z3 5; simp at y0 y1 y2 y3 y4 y5; clear z3 hc5 hk5)
                    all_goals
                      have hKw : Kept (One g) wr w5 := ((((Kept.refl (One g) wr).alloc _).alloc _).drewN 1).same HK5.out
                      have K5 := HKP.out.fresh hKw (fun i hi => by cases hi; exact hg3')
                      have B5 := HBP.out.kept hKw (fun i hi hf => HG3.out i hi hf)
                      have HF := Lib.hid (And.intro K5 B5)
                      clear hKw K5 B5
                      go_wp2
                      go_meet
                      exact ⟨_, s5, rfl, HBT.out, HF.out.1, HF.out.2, HC5.out, HNX.out⟩
                  · have hpl : (tb.take 40).length = pm := by have := HBY.out.1; have := HPE.out; simp; omega
                    obtain ⟨hnx, hbo⟩ := HTF.out (pm : Int) (by rw [bytesOf4 (t := ⟨kd, v, tB, bn, bc, tb⟩) h5, hpl])
                    have hbp : Byt w tB pm bc (tb.take 40) := by
                      have := HBY.out.pre hpm
                      have e : tb.take pm = tb.take 40 := by
                        rw [HPE.out, ← HBY.out.1]
                        rw [List.take_eq_take_iff]
                        omega
                      rw [e] at this
                      exact this
                    have hbt : le = 0 → ((takeM s (pm : Int)).1 == tb.take 40) = true := fun hz => by rw [hbo hz, bytesOf4 (t := ⟨kd, v, tB, bn, bc, tb⟩) h5]; simp
                    generalize hs5 : (takeM s (pm : Int)).2 = s5 at hnx
                    have HBT := Lib.hid hbt
                    have HS5 := Lib.hid hs5
                    have HNX := Lib.hid hnx
                    have HBPT := Lib.hid hbp
                    clear hnx hs5 hbp hpl hbo hbt
                    go_wp2_with fail
                    refine (Take_yes g A3 (N - le) c3 _ (pm : Int) _ (by exact (HCT.out.kept (((Kept.refl Nil wr).alloc _).alloc _) (fun hf => hf) (fun _ _ hf => hf)).heap rfl) (by omega) (by omega)).mono ?_
                    rintro e w5 ⟨v5, rfl, ho5, hc5, hk5⟩
                    generalize hr5 : (takeM s (pm : Int)).1 = r5 at ho5
                    obtain ⟨m5, hm5⟩ : ∃ m5, m5 = r5.length := ⟨_, rfl⟩
                    rw [← hm5] at ho5
                    rw [HS5.out] at hc5
                    obtain ⟨A5, c5, rfl, hb5, _⟩ := Byt.of_own ho5
                    have HC5 := Lib.hid hc5
                    have HR5 := Lib.hid hr5
                    have hKw : Kept (One g) wr w5 := (((Kept.refl (One g) wr).alloc _).alloc _).same hk5
                    have K5 := Lib.hid (HKP.out.fresh hKw (fun i hi => by cases hi; exact hg3'))
                    have HB5 := Lib.hid (HBP.out.kept hKw (fun i hi hf => HG3.out i hi hf))
                    have HPT := Lib.hid (HBPT.out.kept K5.out (fun _ _ hf => hf))
                    clear hKw ho5 hc5 hk5 hm5 hr5
                    go_wp2_with fail
                    refine (equal A5 tB m5 c5 pm bc _ _ _ hb5 HPT.out).mono ?_
                    rintro e w' ⟨rfl, rfl⟩
                    have hbb : le = 0 → (r5 == tb.take 40) = true := by rw [← HR5.out]; exact HBT.out
                    generalize (r5 == tb.take 40) = bb at hbb
                    have HBBT := Lib.hid hbb
                    clear hb5 hbb
                    go_wp2
                    go_meet
                    exact ⟨bb, s5, rfl, HBBT.out, K5.out, HB5.out, HC5.out, HNX.out⟩
                case rest =>
                  obtain ⟨bb, s5, rfl, hb0, hk5, hb5, hc5, hl5⟩ := hcut
                  have e0 := hc5.c0
                  have e3 := hc5.c3
                  have HB0 := Lib.hid hb0
                  have HK5 := Lib.hid hk5
                  have HB5 := Lib.hid hb5
                  have HC5 := Lib.hid hc5
                  have HL5 := Lib.hid hl5
                  clear hb0 hk5 hb5 hc5 hl5 q0 q1 q2
                  by_cases hz : le = 0
                  · have hbt := HB0.out hz
                    subst hbt
                    have he0 := HL5.out.2 hz
                    rw [he0] at e3
                    have HZ := Lib.hid hz
                    clear he0 hz
                    go_wp2_with fail
                    refine (err_yes g 0 _ e0 e3).mono ?_
                    rintro e w' ⟨rfl, rfl⟩
                    go_wp2
                    go_roundw
                    case rel => exact ⟨k + 1, s5, x, by omega, by go_num, rfl, by omega, by omega, HX2.out, HK5.out, HB5.out, HC5.out, HL5.out⟩
                    case measure => simp [intOf]; omega
                  · have hzb : ((le : Int) == 0) = false := by simp; omega
                    cases bb
                    all_goals
                      go_wp2_with (go_at_call 27; refine (err_yes g s5.er _ e0 e3).mono ?_; rintro e w' ⟨rfl, rfl⟩)
                      all_goals
                        go_roundw
                        case rel => exact ⟨k + 1, s5, _, by omega, by go_num, rfl, by omega, by omega, fun h => absurd h hz, HK5.out, HB5.out, HC5.out, HL5.out⟩
                        case measure => simp [intOf]; omega
              · have hfull : ts.take k = ts := List.take_of_length_le (by rw [HL.out]; omega)
                have h3 := hct.c3
                have h0 := hct.c0
                have h2 := hct.c2
                by_cases hz : le = 0
                · have he0 := hls.2 hz
                  have hsk : s.k = N := by
                    rcases hls.1.2 with ⟨_, h2⟩ | h2
                    · rw [hfull] at h2
                      rw [h2, HN.out]
                    · rw [he0] at h2; cases h2
                  have hlf : leftM s = 0 := by
                    have := hct.len
                    simp [leftM, he0]
                    omega
                  rw [hsk] at h2
                  have hx00 := HX2.out hz
                  subst hx00
                  have HCT := Lib.hid hct
                  have HKP := Lib.hid hkp
                  have HBP := Lib.hid hbb
                  have HLF := Lib.hid hlf
                  have hzb : ((le : Int) == 0) = true := by simp; omega
                  have hz1 : ((le : Int) == 1) = false := by simp; omega
                  have HZ := Lib.hid hz
                  clear hct hkp hbb hlf hfull he0 h3 hls hsk hz
                  go_wp2_with fail
                  refine (left_yes g A3 _ c3 _ _ HCT.out).mono ?_
                  rintro e w6 ⟨rfl, q, rfl⟩
                  rw [HLF.out]
                  go_wp2_with fail
                  refine (at_yes g N _ (by exact h0) (by exact h2)).mono ?_
                  rintro e w' ⟨rfl, rfl⟩
                  go_wp2
                  go_roundw
                  case rel => exact ⟨le + 1, by omega, by go_num, HKP.out.drewN q, HBP.out.heap rfl⟩
                  case measure => simp [intOf]; omega
                · have he4 : s.er = 4 := by
                    rcases hls.1.2 with ⟨_, h2⟩ | h2
                    · rw [hfull] at h2
                      have := hct.le
                      have := HN.out
                      omega
                    · exact h2
                  have hlf : leftM s = 0 := by simp [leftM, he4]
                  rw [he4] at h3
                  have HCT := Lib.hid hct
                  have HKP := Lib.hid hkp
                  have HBP := Lib.hid hbb
                  have HLF := Lib.hid hlf
                  have hzb : ((le : Int) == 0) = false := by simp; omega
                  have hz1 : ((le : Int) == 1) = true := by simp; omega
                  clear hct hkp hbb hlf hfull he4 hls h2
                  go_wp2_with fail
                  refine (left_yes g A3 _ c3 _ _ HCT.out).mono ?_
                  rintro e w6 ⟨rfl, q, rfl⟩
                  rw [HLF.out]
                  go_wp2_with fail
                  refine (err_yes g 4 _ (by exact h0) (by exact h3)).mono ?_
                  rintro e w' ⟨rfl, rfl⟩
                  go_wp2
                  go_roundw
                  case rel => exact ⟨le + 1, by omega, by go_num, HKP.out.drewN q, HBP.out.heap rfl⟩
                  case measure => simp [intOf]; omega
end Go.Proofs.Ytjfffddaiefggaa
