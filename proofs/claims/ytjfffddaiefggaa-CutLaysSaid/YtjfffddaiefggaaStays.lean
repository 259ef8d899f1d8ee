/- tolllaw01.CutStays: the walk. -/
import Derived.Test.YtjfffddaiefggaaWakes
namespace Go.Proofs.Ytjfffddaiefggaa
open Go.RowKit
set_option linter.unusedVariables false

theorem takeM_err (s : Cst) (x : Int) (h : s.er ≠ 0) : takeM s x = ([], s) := by unfold takeM; simp [h]
theorem takeM_ok (l : List UInt8) (k m : Nat) (x : Int) (hx : x = (m : Int)) (h : k + m ≤ l.length) : takeM ⟨l, k, 0⟩ x = ((l.take (k + m)).drop k, ⟨l, k + m, 0⟩) := by
  subst hx
  unfold takeM
  rw [if_neg (by simp), if_neg (by omega), if_neg (by simp; omega)]
  simp
/-- What reads as nothing has no length. -/
theorem own_nil {w : World} {B e : Nat} {v : Value} (h : w.ownsRow B e 1 v ([] : List UInt8).length (bys [])) : ∃ A c, v = .slice A 0 c := by
  obtain ⟨A, c, rfl, _⟩ := Byt.of_own h
  exact ⟨A, c, rfl⟩

theorem stays_small (A : Option Addr) (n c : Nat) (l : List UInt8) (x y : Int) (w : World) (hnc : n ≤ c) (hcc : c ≤ 9223372036854775807) (h : Byt w A n c l) (hs : n ≤ 100) :
    Calls Try.prog 7 #[.slice A n c, .int .i64 x, .int .i64 y] w fun e w' => e = .returned (.bool true) ∧ Below w.heap.size w w' := by
  have hlen := h.1
  have e2 : (takeM ⟨l, 0, 0⟩ ((n : Int) / 2)).2 = ⟨l, (n / 2), 0⟩ := by rw [takeM_ok l 0 (n / 2) _ (by omega) (by omega)]; try simp
  have E2 := Lib.hid e2
  have HL := Lib.hid hlen
  clear e2 hlen
  go_enter Try.func7, Try.ntmps7
  go_wp2_with fail
  refine (new_yes A n c l _ h (by omega)).mono ?_
  rintro e w1 ⟨g, A', c', rfl, hc, hk, hg, hl⟩
  have K1 := Lib.hid hk
  clear h hk
  go_wp2_with fail
  refine (Skip_yes g A' n c' _ _ _ hc (by omega)).mono ?_
  rintro e w2 ⟨rfl, hc2, hk2⟩
  rw [E2.out] at hc2
  have K2 := Lib.hid (K1.out.fresh hk2 (fun i hi => by cases hi; omega))
  clear hc hk2
  go_wp2_with fail
  refine (fail_yes g A' n c' _ _ _ hc2).mono ?_
  rintro e w3 ⟨rfl, hc3, hk3⟩
  rw [show failM ⟨l, (n / 2), 0⟩ x = ⟨l, (n / 2), x⟩ from by simp [failM]] at hc3
  have K3 := Lib.hid (K2.out.fresh hk3 (fun i hi => by cases hi; omega))
  clear hc2 hk3
  by_cases hx : x = 0
  · subst hx
    go_wp2_with fail
    refine (err_yes g 0 _ hc3.c0 hc3.c3).mono ?_
    rintro e w4 ⟨rfl, rfl⟩
    go_wp2_with fail
    refine (left_yes g A' n c' _ _ hc3).mono ?_
    rintro e w4 ⟨rfl, q, rfl⟩
    have hlv : leftM ⟨l, (n / 2), 0⟩ = n - ((n : Int) / 2) := by have := HL.out; simp [leftM]; omega
    rw [hlv]
    clear hlv
    go_wp2_with fail
    refine (wakes_yes _).mono ?_
    rintro e w5 ⟨rfl, hk5⟩
    go_wp2
    go_ret
    exact ⟨rfl, ((K3.out.drewN q).then hk5).below (Nat.le_refl _) (fun k hf => hf.elim)⟩
  · have hxb : (x == 0) = false := by simp [hx]
    have HX := Lib.hid hx
    have ht : ∀ z, takeM ⟨l, (n / 2), x⟩ z = ([], ⟨l, (n / 2), x⟩) := fun z => takeM_err _ _ hx
    have HT := Lib.hid ht
    clear hx ht
    go_wp2_with fail
    refine (fail_yes g A' n c' _ _ _ hc3).mono ?_
    rintro e w4 ⟨rfl, hc4, hk4⟩
    rw [show failM ⟨l, (n / 2), x⟩ y = ⟨l, (n / 2), x⟩ from by have := HX.out; simp [failM, this]] at hc4
    have K4 := Lib.hid (K3.out.fresh hk4 (fun i hi => by cases hi; omega))
    clear hc3 hk4
    go_wp2_with fail
    refine (Byte_yes g A' n c' _ _ hc4).mono ?_
    rintro e w5 ⟨rfl, hc5, hk5⟩
    rw [HT.out] at hc5
    rw [HT.out, show (numM ([] : List UInt8) : Int) = 0 from rfl]
    have K5 := Lib.hid (K4.out.fresh hk5 (fun i hi => by cases hi; omega))
    clear hc4 hk5
    go_wp2_with fail
    refine (Two_yes g A' n c' _ _ hc5).mono ?_
    rintro e w6 ⟨rfl, hc6, hk6⟩
    rw [HT.out] at hc6
    rw [HT.out, show (numM ([] : List UInt8) : Int) = 0 from rfl]
    have K6 := Lib.hid (K5.out.fresh hk6 (fun i hi => by cases hi; omega))
    clear hc5 hk6
    go_wp2_with fail
    refine (Four_yes g A' n c' _ _ hc6).mono ?_
    rintro e w7 ⟨rfl, hc7, hk7⟩
    rw [HT.out] at hc7
    rw [HT.out, show (numM ([] : List UInt8) : Int) = 0 from rfl]
    have K7 := Lib.hid (K6.out.fresh hk7 (fun i hi => by cases hi; omega))
    clear hc6 hk7
    go_wp2_with fail
    refine (Mac_yes g A' n c' _ _ hc7).mono ?_
    rintro e w8 ⟨rfl, hc8, hk8⟩
    rw [HT.out] at hc8
    rw [HT.out, show (bys (macM [])).toArray = #[.int .u8 0, .int .u8 0, .int .u8 0, .int .u8 0, .int .u8 0, .int .u8 0] from rfl]
    have K8 := Lib.hid (K7.out.fresh hk8 (fun i hi => by cases hi; omega))
    clear hc7 hk8
    have heq := eq_mac [0, 0, 0, 0, 0, 0] [0, 0, 0, 0, 0, 0] rfl rfl
    rw [show (bys [0, 0, 0, 0, 0, 0]).toArray = #[.int .u8 0, .int .u8 0, .int .u8 0, .int .u8 0, .int .u8 0, .int .u8 0] from rfl, show (([0, 0, 0, 0, 0, 0] : List UInt8) == [0, 0, 0, 0, 0, 0]) = true from rfl] at heq
    go_wp2_with fail
    refine (Take_yes g A' n c' _ 1 _ hc8 (by omega) (by omega)).mono ?_
    rintro e w9 ⟨v, rfl, ho, hc9, hk9⟩
    rw [HT.out] at hc9 ho
    obtain ⟨Av, cv, rfl⟩ := own_nil ho
    have K9 := Lib.hid (K8.out.fresh hk9 (fun i hi => by cases hi; omega))
    clear hc8 hk9 ho
    go_wp2_with fail
    refine (Rest_yes g A' n c' _ _ hc9 (by omega)).mono ?_
    rintro e w10 ⟨v, rfl, ho, hc10, hk10⟩
    rw [HT.out] at hc10 ho
    obtain ⟨Av', cv', rfl⟩ := own_nil ho
    have K10 := Lib.hid (K9.out.fresh hk10 (fun i hi => by cases hi; omega))
    clear hc9 hk10 ho
    go_wp2_with fail
    refine (Skip_yes g A' n c' _ (-1) _ hc10 (by omega)).mono ?_
    rintro e w11 ⟨rfl, hc11, hk11⟩
    rw [HT.out] at hc11
    have K11 := Lib.hid (K10.out.fresh hk11 (fun i hi => by cases hi; omega))
    clear hc10 hk11
    go_wp2_with fail
    refine (err_yes g x _ hc11.c0 hc11.c3).mono ?_
    rintro e w12 ⟨rfl, rfl⟩
    go_wp2_with fail
    refine (at_yes g (n / 2) _ hc11.c0 hc11.c2).mono ?_
    rintro e w12 ⟨rfl, rfl⟩
    go_wp2_with fail
    refine (left_yes g A' n c' _ _ hc11).mono ?_
    rintro e w12 ⟨rfl, q, rfl⟩
    rw [show leftM ⟨l, (n / 2), x⟩ = 0 from by have := HX.out; simp [leftM, this]]
    go_wp2_with fail
    refine (wakes_yes _).mono ?_
    rintro e w13 ⟨rfl, hk13⟩
    go_wp2
    go_ret
    exact ⟨rfl, ((K11.out.drewN q).then hk13).below (Nat.le_refl _) (fun k hf => hf.elim)⟩
theorem stays_great (A : Option Addr) (n c : Nat) (l : List UInt8) (x y : Int) (w : World) (hnc : n ≤ c) (hcc : c ≤ 9223372036854775807) (h : Byt w A 100 c l) (hs : 100 < n) :
    Calls Try.prog 7 #[.slice A n c, .int .i64 x, .int .i64 y] w fun e w' => e = .returned (.bool true) ∧ Below w.heap.size w w' := by
  have hlen := h.1
  have e2 : (takeM ⟨l, 0, 0⟩ (50 : Int)).2 = ⟨l, 50, 0⟩ := by rw [takeM_ok l 0 50 _ (by omega) (by omega)]; try simp
  have E2 := Lib.hid e2
  have HL := Lib.hid hlen
  clear e2 hlen
  go_enter Try.func7, Try.ntmps7
  go_wp2_with fail
  refine (new_yes A 100 c l _ h (by omega)).mono ?_
  rintro e w1 ⟨g, A', c', rfl, hc, hk, hg, hl⟩
  have K1 := Lib.hid hk
  clear h hk
  go_wp2_with fail
  refine (Skip_yes g A' 100 c' _ _ _ hc (by omega)).mono ?_
  rintro e w2 ⟨rfl, hc2, hk2⟩
  rw [E2.out] at hc2
  have K2 := Lib.hid (K1.out.fresh hk2 (fun i hi => by cases hi; omega))
  clear hc hk2
  go_wp2_with fail
  refine (fail_yes g A' 100 c' _ _ _ hc2).mono ?_
  rintro e w3 ⟨rfl, hc3, hk3⟩
  rw [show failM ⟨l, 50, 0⟩ x = ⟨l, 50, x⟩ from by simp [failM]] at hc3
  have K3 := Lib.hid (K2.out.fresh hk3 (fun i hi => by cases hi; omega))
  clear hc2 hk3
  by_cases hx : x = 0
  · subst hx
    go_wp2_with fail
    refine (err_yes g 0 _ hc3.c0 hc3.c3).mono ?_
    rintro e w4 ⟨rfl, rfl⟩
    go_wp2_with fail
    refine (left_yes g A' 100 c' _ _ hc3).mono ?_
    rintro e w4 ⟨rfl, q, rfl⟩
    have hlv : leftM ⟨l, 50, 0⟩ = 100 - (50 : Int) := by have := HL.out; simp [leftM]; omega
    rw [hlv]
    clear hlv
    go_wp2_with fail
    refine (wakes_yes _).mono ?_
    rintro e w5 ⟨rfl, hk5⟩
    go_wp2
    go_ret
    exact ⟨rfl, ((K3.out.drewN q).then hk5).below (Nat.le_refl _) (fun k hf => hf.elim)⟩
  · have hxb : (x == 0) = false := by simp [hx]
    have HX := Lib.hid hx
    have ht : ∀ z, takeM ⟨l, 50, x⟩ z = ([], ⟨l, 50, x⟩) := fun z => takeM_err _ _ hx
    have HT := Lib.hid ht
    clear hx ht
    go_wp2_with fail
    refine (fail_yes g A' 100 c' _ _ _ hc3).mono ?_
    rintro e w4 ⟨rfl, hc4, hk4⟩
    rw [show failM ⟨l, 50, x⟩ y = ⟨l, 50, x⟩ from by have := HX.out; simp [failM, this]] at hc4
    have K4 := Lib.hid (K3.out.fresh hk4 (fun i hi => by cases hi; omega))
    clear hc3 hk4
    go_wp2_with fail
    refine (Byte_yes g A' 100 c' _ _ hc4).mono ?_
    rintro e w5 ⟨rfl, hc5, hk5⟩
    rw [HT.out] at hc5
    rw [HT.out, show (numM ([] : List UInt8) : Int) = 0 from rfl]
    have K5 := Lib.hid (K4.out.fresh hk5 (fun i hi => by cases hi; omega))
    clear hc4 hk5
    go_wp2_with fail
    refine (Two_yes g A' 100 c' _ _ hc5).mono ?_
    rintro e w6 ⟨rfl, hc6, hk6⟩
    rw [HT.out] at hc6
    rw [HT.out, show (numM ([] : List UInt8) : Int) = 0 from rfl]
    have K6 := Lib.hid (K5.out.fresh hk6 (fun i hi => by cases hi; omega))
    clear hc5 hk6
    go_wp2_with fail
    refine (Four_yes g A' 100 c' _ _ hc6).mono ?_
    rintro e w7 ⟨rfl, hc7, hk7⟩
    rw [HT.out] at hc7
    rw [HT.out, show (numM ([] : List UInt8) : Int) = 0 from rfl]
    have K7 := Lib.hid (K6.out.fresh hk7 (fun i hi => by cases hi; omega))
    clear hc6 hk7
    go_wp2_with fail
    refine (Mac_yes g A' 100 c' _ _ hc7).mono ?_
    rintro e w8 ⟨rfl, hc8, hk8⟩
    rw [HT.out] at hc8
    rw [HT.out, show (bys (macM [])).toArray = #[.int .u8 0, .int .u8 0, .int .u8 0, .int .u8 0, .int .u8 0, .int .u8 0] from rfl]
    have K8 := Lib.hid (K7.out.fresh hk8 (fun i hi => by cases hi; omega))
    clear hc7 hk8
    have heq := eq_mac [0, 0, 0, 0, 0, 0] [0, 0, 0, 0, 0, 0] rfl rfl
    rw [show (bys [0, 0, 0, 0, 0, 0]).toArray = #[.int .u8 0, .int .u8 0, .int .u8 0, .int .u8 0, .int .u8 0, .int .u8 0] from rfl, show (([0, 0, 0, 0, 0, 0] : List UInt8) == [0, 0, 0, 0, 0, 0]) = true from rfl] at heq
    go_wp2_with fail
    refine (Take_yes g A' 100 c' _ 1 _ hc8 (by omega) (by omega)).mono ?_
    rintro e w9 ⟨v, rfl, ho, hc9, hk9⟩
    rw [HT.out] at hc9 ho
    obtain ⟨Av, cv, rfl⟩ := own_nil ho
    have K9 := Lib.hid (K8.out.fresh hk9 (fun i hi => by cases hi; omega))
    clear hc8 hk9 ho
    go_wp2_with fail
    refine (Rest_yes g A' 100 c' _ _ hc9 (by omega)).mono ?_
    rintro e w10 ⟨v, rfl, ho, hc10, hk10⟩
    rw [HT.out] at hc10 ho
    obtain ⟨Av', cv', rfl⟩ := own_nil ho
    have K10 := Lib.hid (K9.out.fresh hk10 (fun i hi => by cases hi; omega))
    clear hc9 hk10 ho
    go_wp2_with fail
    refine (Skip_yes g A' 100 c' _ (-1) _ hc10 (by omega)).mono ?_
    rintro e w11 ⟨rfl, hc11, hk11⟩
    rw [HT.out] at hc11
    have K11 := Lib.hid (K10.out.fresh hk11 (fun i hi => by cases hi; omega))
    clear hc10 hk11
    go_wp2_with fail
    refine (err_yes g x _ hc11.c0 hc11.c3).mono ?_
    rintro e w12 ⟨rfl, rfl⟩
    go_wp2_with fail
    refine (at_yes g 50 _ hc11.c0 hc11.c2).mono ?_
    rintro e w12 ⟨rfl, rfl⟩
    go_wp2_with fail
    refine (left_yes g A' 100 c' _ _ hc11).mono ?_
    rintro e w12 ⟨rfl, q, rfl⟩
    rw [show leftM ⟨l, 50, x⟩ = 0 from by have := HX.out; simp [leftM, this]]
    go_wp2_with fail
    refine (wakes_yes _).mono ?_
    rintro e w13 ⟨rfl, hk13⟩
    go_wp2
    go_ret
    exact ⟨rfl, ((K11.out.drewN q).then hk13).below (Nat.le_refl _) (fun k hf => hf.elim)⟩
end Go.Proofs.Ytjfffddaiefggaa
namespace Go.Proofs.Ytjfffddaiefggaa
open Go.RowKit
theorem stays_all (A : Option Addr) (n c : Nat) (l : List UInt8) (x y : Int) (w : World) (h : Byt w A n c l) (_hx : (Lit.int .i64 x).wf = true) (_hy : (Lit.int .i64 y).wf = true) :
    Calls Try.prog 7 #[.slice A n c, .int .i64 x, .int .i64 y] w fun e w' => e = .returned (.bool true) ∧ Below w.heap.size w w' := by
  rcases Nat.lt_or_ge 100 n with hn | hn
  · exact stays_great A n c _ x y w h.2.1 h.2.2.1 (h.pre (Nat.le_of_lt hn)) hn
  · exact stays_small A n c l x y w h.2.1 h.2.2.1 h hn
end Go.Proofs.Ytjfffddaiefggaa
