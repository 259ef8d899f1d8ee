/- Texts that belong together, one behind the other: DhC, CutD. Conditions: those of each. -/
import Derived.Test.YthjfeanmgaidcaaMg11
import Derived.Test.YthjfeanmgaidcaaMg7
/- Package dhcp: contract of mayBe. -/
namespace Go.Proofs.Ythjfeanmgaidcaa
open Go.RowKit Go.Sort
set_option linter.unusedVariables false

theorem okO_is (o : Opn) : okO o = (hasD o.1 && decide (o.2.length ≤ 255)) := by
  unfold okO hasD
  rw [Bool.eq_iff_iff]
  simp
theorem mayD_is (h : Dh) : mayD h = true ↔ ((h.op = 1 ∨ h.op = 2) ∧ ∀ o ∈ h.os, okO o = true) := by simp [mayD]
theorem mayD_not (h : Dh) {o : Opn} (ho : o ∈ h.os) (hn : okO o = false) : mayD h = false := by
  cases hm : mayD h with
  | false => rfl
  | true => have := ((mayD_is h).1 hm).2 o ho; rw [hn] at this; cases this
theorem mayD_all (h : Dh) (ha : ∀ o ∈ h.os, okO o = true) : mayD h = decide (h.op = 1 ∨ h.op = 2) := by
  rw [Bool.eq_iff_iff, mayD_is]
  simp only [decide_eq_true_eq]
  exact ⟨fun h => h.1, fun h => ⟨h, ha⟩⟩
set_option maxRecDepth 100000 in
set_option maxHeartbeats 4000000 in
theorem may_yes (D : Nat → Prop) (h : Dh) (vo vb : Value) (w : World) (hI : DhIn D w h vo vb) : Calls Try.prog 22 #[dhv h vo vb] w fun e w' => e = .returned (.bool (mayD h)) ∧ Kept Nil w w' := by
  have hP := DB.new w 33 h vo vb
  have hk := (Kept.refl Nil w).alloc (.cells (dcs h vo vb).toArray 33)
  go_enter Try.func22, Try.ntmps22
  go_upto_region 1 with (fail)
  refine wp_nameE (fun W => DB W w.heap.size 33 h vo vb ∧ Kept Nil w W) ⟨hP, hk⟩ ?_
  clear hP hk
  rintro W ⟨hP, hk⟩
  have HS := Lib.hid hI.ok.s6
  have hco := hP.co HS.out
  have HI := Lib.hid (hI.nil hk)
  have HK := Lib.hid hk
  have HP := Lib.hid hP
  obtain ⟨A, n, c, rfl, hO⟩ := hI.o
  have HO := Lib.hid (hO.kept hk (fun _ _ hf => hf))
  have hnc := hO.lt.1
  have hcc := hO.lt.2
  have HL := Lib.hid hO.len
  clear hP hk hO hI
  go_wp2
  go_loopw [8] (fun i wr => ∃ k : Nat, k ≤ n ∧ i = .int .i64 (k : Int) ∧ (∀ j (hj : j < h.os.length), j < k → okO h.os[j] = true) ∧ Kept Nil W wr) (fun i _ => n - (intOf i).toNat)
  case atStart => exact ⟨0, Nat.zero_le _, rfl, fun j _ hj => absurd hj (by omega), Kept.refl _ _⟩
  case round =>
    obtain ⟨k, hk, rfl, hall, hkp⟩ := hrel
    by_cases hlt : k < n
    · have hkl : k < h.os.length := by rw [HL.out]; exact hlt
      obtain ⟨b, o, A', m, c', rfl, hrow, hby, -⟩ := (HO.out.kept hkp (fun _ _ hf => hf)).at hkl
      have q0 := hrow 0 _ rfl
      have q1 := hrow 1 _ rfl
      rw [Nat.add_zero] at q0
      have HALL := Lib.hid hall
      have HKP := Lib.hid hkp
      have hm : h.os[k].2.length = m := hby.1
      have hok := okO_is h.os[k]
      rw [hm] at hok
      have HM := Lib.hid (show h.os[k] ∈ h.os from List.getElem_mem hkl)
      have HN := Lib.hid (show ∀ b, okO h.os[k] = b → b = true → ∀ j (hj : j < h.os.length), j < k + 1 → okO h.os[j] = true from fun b hb e j hj hjk => by
        rcases Nat.lt_or_ge j k with h1 | h1
        · exact hall j hj h1
        · obtain rfl : j = k := by omega
          rw [hb, e])
      have hm63 : m ≤ 9223372036854775807 := Nat.le_trans hby.2.1 hby.2.2.1
      have HMN := Lib.hid (mayD_not h HM.out)
      generalize h.os[k] = op at *
      obtain ⟨cd, vl⟩ := op
      simp only at q0 hok
      clear hall hkp hrow hby hm HM
      cases hh : hasD cd with
      | false =>
        rw [hh, Bool.false_and] at hok
        have HF := Lib.hid (HMN.out hok)
        clear hok HN HMN HALL
        go_wp2_with (go_at_call 52; refine (has_yes cd _).mono ?_; rintro e w' ⟨rfl, rfl⟩; rw [hh])
        go_ret
        exact ⟨by rw [HF.out]; rfl, ((HK.out.then HKP.out).alloc _)⟩
      | true =>
        rw [hh, Bool.true_and] at hok
        by_cases h255 : m ≤ 255
        · have hg : decide ((255 : Int) < (m : Int)) = false := by simp; omega
          have hg2 : ¬ (255 : Int) < (m : Int) := by omega
          have HN2 := Lib.hid (HN.out _ hok (by simp [h255]))
          clear hok HN HMN HALL h255
          go_wp2_with (go_at_call 52; refine (has_yes cd _).mono ?_; rintro e w' ⟨rfl, rfl⟩; rw [hh])
          go_roundw
          case rel => exact ⟨k + 1, by omega, by go_num, HN2.out, HKP.out.alloc _⟩
          case measure => simp [intOf]; omega
        · have hg : decide ((255 : Int) < (m : Int)) = true := by simp; omega
          have hg2 : (255 : Int) < (m : Int) := by omega
          have HF := Lib.hid (HMN.out (by rw [hok]; simp [h255]))
          clear hok HN HMN HALL h255
          go_wp2_with (go_at_call 52; refine (has_yes cd _).mono ?_; rintro e w' ⟨rfl, rfl⟩; rw [hh])
          go_ret
          exact ⟨by rw [HF.out]; rfl, ((HK.out.then HKP.out).alloc _)⟩
    · obtain rfl : k = n := by omega
      have HMA := Lib.hid (mayD_all h (fun o ho => by obtain ⟨j, hj, rfl⟩ := List.getElem_of_mem ho; exact hall j hj (by rw [HL.out] at hj; exact hj)))
      have HR := Lib.hid ((HP.out.kept hkp (fun hf => hf)).all)
      have HKP := Lib.hid hkp
      have HIN := Lib.hid (infDh h HS.out (.slice A k c) vb)
      clear hall hkp hlt
      go_wp2_with (first
        | (refine wpList_ld rfl _ _ rfl w.heap.size 0 rfl (dcs h (.slice A k c) vb) HR.out _ Try.underlying33 rfl HIN.out ?_)
        | (go_at_call 53; refine (asks_yes h HS.out (.slice A k c) vb _).mono ?_; rintro e w2 ⟨rfl, hk2⟩)
        | fail)
      go_ret
      exact ⟨by rw [HMA.out, Bool.decide_or]; rfl, (HK.out.then HKP.out).then hk2⟩
end Go.Proofs.Ythjfeanmgaidcaa
/- Package cut's cutter: what is taken, step by step. -/
namespace Go.Proofs.Ythjfeanmgaidcaa
open Go.RowKit
set_option linter.unusedVariables false

/-- What is taken of a cutter without an error. -/
theorem takeM_ok (l : List UInt8) (k n : Nat) (h : k + n ≤ l.length) : takeM ⟨l, k, 0⟩ (n : Int) = ((l.drop k).take n, ⟨l, k + n, 0⟩) := by
  unfold takeM
  rw [if_neg (by simp), if_neg (by omega), if_neg (by simp only; omega)]
  simp only [Int.toNat_natCast]
  rw [List.drop_take, Nat.add_sub_cancel_left]
theorem takeM_short (l : List UInt8) (k n : Nat) (hk : k ≤ l.length) (h : l.length < k + n) : takeM ⟨l, k, 0⟩ (n : Int) = ([], ⟨l, k, 4⟩) := by
  unfold takeM
  rw [if_neg (by simp), if_neg (by omega), if_pos (by simp only; omega)]
theorem takeM_err (l : List UInt8) (k : Nat) (er : Int) (he : er ≠ 0) (x : Int) : takeM ⟨l, k, er⟩ x = ([], ⟨l, k, er⟩) := by
  unfold takeM
  rw [if_pos he]
/-- A cutter that has taken K bytes, or has failed. -/
def Took (b : List UInt8) (K : Nat) (s : Cst) : Prop := s.l = b ∧ (s.er = 4 ∨ (s.er = 0 ∧ s.k = K ∧ K ≤ b.length))
theorem took_start (b : List UInt8) : Took b 0 ⟨b, 0, 0⟩ := ⟨rfl, .inr ⟨rfl, rfl, Nat.zero_le _⟩⟩
theorem Took.next {b : List UInt8} {K : Nat} {s : Cst} (h : Took b K s) (n : Nat) : Took b (K + n) (takeM s (n : Int)).2 := by
  obtain ⟨l, k, er⟩ := s
  obtain ⟨rfl, h⟩ := h
  simp only at h
  rcases h with rfl | ⟨rfl, rfl, hk⟩
  · rw [takeM_err l k 4 (by decide)]
    exact ⟨rfl, .inl rfl⟩
  · rcases Nat.lt_or_ge l.length (k + n) with h | h
    · rw [takeM_short l k n hk h]
      exact ⟨rfl, .inl rfl⟩
    · rw [takeM_ok l k n h]
      exact ⟨rfl, .inr ⟨rfl, rfl, h⟩⟩
theorem Took.done {b : List UInt8} {K : Nat} {s : Cst} (h : Took b K s) (hb : b.length < K) : s.er = 4 := by
  rcases h.2 with h | ⟨_, _, h⟩
  · exact h
  · omega
end Go.Proofs.Ythjfeanmgaidcaa
