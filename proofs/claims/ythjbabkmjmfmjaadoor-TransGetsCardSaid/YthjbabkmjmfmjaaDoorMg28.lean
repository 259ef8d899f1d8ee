/- Texts that belong together, one behind the other: RtD, RtF. Conditions: those of each. -/
import Derived.Test.YthjbabkmjmfmjaaDoorMg6
import Derived.Test.YthjbabkmjmfmjaaDoorMg7
import Derived.Test.YthjbabkmjmfmjaaDoorMg16
import Derived.Deep.DeepCutAuto
import Derived.Test.YthjbabkmjmfmjaaDoorMg26
import Derived.Test.YthjbabkmjmfmjaaDoorMg19
/- tollref07: contracts of lay, TcpBytes, UdpBytes. -/
namespace Go.Proofs.YthjbabkmjmfmjaaDoor
open Go.RowKit Go.Sort
set_option linter.unusedVariables false

theorem made_nil (W : World) : Made W W (.slice none 0 0) [] := ⟨World.ownsRow_nil _ _ _ _, Kept.refl _ _⟩
/-- What an append leaves. -/
theorem made_app {W u u1 u2 : World} {v v' : Value} {L l : List UInt8} {n m : Nat} (h : Made W u v L) (h1 : Kept Nil u u1) (ho : u2.ownsRow W.heap.size 5 1 v' (n + m) (bys L ++ bys l)) (hg : u1.grownBy u2 v.ownBlock) (hn : L.length = n) (hm : l.length = m) : Made W u2 v' (L ++ l) := by
  subst hn hm
  refine ⟨by rw [List.length_append, bys_app]; exact ho, (h.2.then h1).grown hg (fun k hk hl => ?_)⟩
  have := (h.1.lt k hk).1
  omega
theorem be4_split (x : Nat) : beM 2 (x / 65536) ++ beM 2 (x % 65536) = beM 4 x := by
  simp only [beM, show List.range 2 = [0, 1] from rfl, show List.range 4 = [0, 1, 2, 3] from rfl, List.map_cons, List.map_nil, List.cons_append, List.nil_append]
  have e : ∀ a b : Nat, a % 256 = b % 256 → UInt8.ofNat a = UInt8.ofNat b := fun a b h => UInt8.toNat_inj.1 (by rw [UInt8.toNat_ofNat', UInt8.toNat_ofNat']; exact h)
  congr 1
  · apply e; simp; omega
  congr 1
  · apply e; simp
  congr 1
  · apply e; simp; omega
  congr 1
  · apply e; simp
set_option maxRecDepth 100000 in
set_option maxHeartbeats 4000000 in
theorem qlay_yes (W : World) (v : Value) (L : List UInt8) (x : Nat) (u : World) (h : Made W u v L) (hx : x < 65536) (hL : L.length ≤ 100000) : Calls Tryd.prog 57 #[v, .int .i64 (x : Int)] u fun e u' => ∃ v', e = .returned v' ∧ Made W u' v' (L ++ beM 2 x) := by
  obtain ⟨i0, hi, hz0, hz1, hz2⟩ := info_parts Tryd.infb
  have w1 : IntKind.wrap .u8 ((x : Int) / 256) = (((UInt8.ofNat (x / 256)).toNat : Nat) : Int) := by rw [IntWalk.u8_in _ (by omega), UInt8.toNat_ofNat']; omega
  have w2 : IntKind.wrap .u8 ((x : Int) % 256) = (((UInt8.ofNat x).toNat : Nat) : Int) := by rw [IntWalk.u8_in _ (by omega), UInt8.toNat_ofNat']; omega
  have w1' : (x : Int) / 256 = (((UInt8.ofNat (x / 256)).toNat : Nat) : Int) := by rw [UInt8.toNat_ofNat']; omega
  have w2' : (x : Int) % 256 = (((UInt8.ofNat x).toNat : Nat) : Int) := by rw [UInt8.toNat_ofNat']; omega
  have HE := Lib.hid (show beM 2 x = [UInt8.ofNat (x / 256), UInt8.ofNat x] from beM_two x)
  obtain ⟨a, ha⟩ : ∃ a, UInt8.ofNat (x / 256) = a := ⟨_, rfl⟩
  obtain ⟨b, hb⟩ : ∃ b, UInt8.ofNat x = b := ⟨_, rfl⟩
  rw [ha] at w1 w1' HE
  rw [hb] at w2 w2' HE
  clear ha hb
  have HB := Lib.hid (Byt.lit u [a, b] 5 (by simp))
  have hk := (Kept.refl Nil u).alloc (.cells (bys [a, b]).toArray 5)
  have HO := Lib.hid (own_kept h.1 hk (fun _ _ hf => hf))
  have HS := Lib.hid h.2.size
  have HM := Lib.hid h
  clear h
  go_enter Tryd.func57, Tryd.ntmps57
  go_wp2_with (at_builtin; refine wpList_any rfl _ _ 22 rfl W.heap.size 5 i0 (.int .u8 0) Tryd.underlying22 hi hz0 hz1 hz2 rfl v L.length (bys L) rfl HO.out (some ⟨u.heap.size, 0, none⟩) 2 2 [a, b] rfl HB.out (by omega) (by have := HS.out; simp; omega) ?_; intro v' w2 hown' hgrow hob)
  have HF := Lib.hid (made_app HM.out hk hown' hgrow rfl rfl)
  clear hown' hgrow hob hk HO HB HM
  go_wp2
  go_ret
  rw [HE.out]
  exact ⟨v', rfl, HF.out⟩
end Go.Proofs.YthjbabkmjmfmjaaDoor
/- tollref07: contracts of words, all, Right. -/
namespace Go.Proofs.YthjbabkmjmfmjaaDoor
open Go.RowKit Go.Sort
set_option linter.unusedVariables false

theorem byte_take (l : List UInt8) (k : Nat) (h : k < l.length) (x : UInt8) (hx : l[k]? = some x) : byteM (l.take (k + 1)) = addM (byteM (l.take k)) (if k % 2 = 0 then 256 * x.toNat else x.toNat) := by
  rw [List.getElem?_eq_getElem h] at hx
  simp only [Option.some.injEq] at hx
  rw [List.take_succ_eq_append_getElem h, byte_snoc, hx, List.length_take, Nat.min_eq_left (by omega)]
set_option maxHeartbeats 1000000 in
theorem qwords_yes (A : Option Addr) (n c : Nat) (l : List UInt8) (w : World) (h : Byt w A n c l) (hn : n ≤ 1099511627776) : Calls Tryd.prog 51 #[.slice A n c] w fun e w' => e = .returned (.int .i64 (accM l : Int)) ∧ w = w' := by
  have hnc := h.2.1
  have hcc := h.2.2.1
  have HL := Lib.hid h.1
  have HB := Lib.hid h
  clear h
  go_enter Tryd.func51, Tryd.ntmps51
  go_wp2
  go_loop [3, 4] (fun t i => ∃ k : Nat, k ≤ n ∧ i = .int .i64 (k : Int) ∧ t = .int .i64 (byteM (l.take k) : Int)) (fun _ i => n - (intOf i).toNat)
  case atStart => exact ⟨0, Nat.zero_le _, rfl, rfl⟩
  case round =>
    obtain ⟨k, hk, rfl, rfl⟩ := hrel
    have hle := byte_le (l.take k)
    by_cases hlt : k < n
    · have hkl : k < l.length := by rw [HL.out]; exact hlt
      obtain ⟨b, o, rfl, hcell⟩ := HB.out.at (i := k) hkl
      obtain ⟨x, hx⟩ : ∃ x, l[k] = x := ⟨_, rfl⟩
      have hx? : l[k]? = some x := by rw [List.getElem?_eq_getElem hkl, hx]
      have hxl := x.toNat_lt
      rw [hx] at hcell
      have hS := byte_take l k hkl x hx?
      generalize byteM (l.take k) = M at *
      clear hx hx?
      by_cases he : k % 2 = 0
      · have he' : ((k : Int) % 2 == 0) = true := by simp; omega
        rw [if_pos he] at hS
        have HS := Lib.hid hS
        clear hS he
        by_cases hbig : 65535 < M + 256 * x.toNat
        · have HA := Lib.hid (show addM M (256 * x.toNat) = M + 256 * x.toNat - 65535 by unfold addM; rw [if_pos hbig])
          have hbig' : (65535 : Int) < (M : Int) + 256 * (x.toNat : Int) := by omega
          go_wp2
          go_round
          case rel => exact ⟨k + 1, by omega, by go_num, by rw [HS.out, HA.out]; go_num⟩
          case measure => simp [intOf]; omega
        · have HA := Lib.hid (show addM M (256 * x.toNat) = M + 256 * x.toNat by unfold addM; rw [if_neg hbig])
          have hbig' : ¬ (65535 : Int) < (M : Int) + 256 * (x.toNat : Int) := by omega
          go_wp2
          go_round
          case rel => exact ⟨k + 1, by omega, by go_num, by rw [HS.out, HA.out]; go_num⟩
          case measure => simp [intOf]; omega
      · have he' : ((k : Int) % 2 == 0) = false := by simp; omega
        rw [if_neg he] at hS
        have HS := Lib.hid hS
        clear hS he
        by_cases hbig : 65535 < M + x.toNat
        · have HA := Lib.hid (show addM M x.toNat = M + x.toNat - 65535 by unfold addM; rw [if_pos hbig])
          have hbig' : (65535 : Int) < (M : Int) + (x.toNat : Int) := by omega
          go_wp2
          go_round
          case rel => exact ⟨k + 1, by omega, by go_num, by rw [HS.out, HA.out]; go_num⟩
          case measure => simp [intOf]; omega
        · have HA := Lib.hid (show addM M x.toNat = M + x.toNat by unfold addM; rw [if_neg hbig])
          have hbig' : ¬ (65535 : Int) < (M : Int) + (x.toNat : Int) := by omega
          go_wp2
          go_round
          case rel => exact ⟨k + 1, by omega, by go_num, by rw [HS.out, HA.out]; go_num⟩
          case measure => simp [intOf]; omega
    · have ht : l.take k = l := by rw [List.take_of_length_le]; rw [HL.out]; omega
      rw [ht, byte_acc]
      clear ht hle
      go_wp2
      go_ret
      exact ⟨rfl, rfl⟩
theorem u32_halves (x : Nat) (h : x < 4294967296) : ∃ a b : Nat, (x : Int) / 65536 = (a : Int) ∧ (x : Int) % 65536 = (b : Int) ∧ a < 65536 ∧ b < 65536 ∧ beM 2 a ++ beM 2 b = beM 4 x := ⟨x / 65536, x % 65536, by omega, by omega, by omega, by omega, be4_split x⟩
theorem all_app (s d p : Nat) (l : List UInt8) (s1 s2 d1 d2 : List UInt8) (es : s1 ++ s2 = beM 4 s) (ed : d1 ++ d2 = beM 4 d) : [] ++ s1 ++ s2 ++ d1 ++ d2 ++ [0, UInt8.ofNat p] ++ beM 2 l.length ++ l = allB s d p l := by
  unfold allB pseuM
  rw [← es, ← ed]
  simp only [List.append_assoc, List.nil_append, List.cons_append]
set_option maxRecDepth 100000 in
set_option maxHeartbeats 8000000 in
theorem qall_yes (s d p : Nat) (hs : s < 4294967296) (hd : d < 4294967296) (hp : p < 256) (A : Option Addr) (n c : Nat) (l : List UInt8) (w : World) (h : Byt w A n c l) (hn : n ≤ 65535) :
    Calls Tryd.prog 52 #[.int .u32 (s : Int), .int .u32 (d : Int), .int .i64 (p : Int), .slice A n c] w fun e w' => ∃ v, e = .returned v ∧ Made w w' v (allB s d p l) := by
  obtain ⟨i0, hi, hz0, hz1, hz2⟩ := info_parts Tryd.infb
  obtain ⟨s1, s2, es1, es2, ls1, ls2, es⟩ := u32_halves s hs
  obtain ⟨d1, d2, ed1, ed2, ld1, ld2, ed⟩ := u32_halves d hd
  have ms1 : (s1 : Int) % 4294967296 = (s1 : Int) := by omega
  have md1 : (d1 : Int) % 4294967296 = (d1 : Int) := by omega
  have ms2 : (s2 : Int) % 4294967296 = (s2 : Int) := by omega
  have md2 : (d2 : Int) % 4294967296 = (d2 : Int) := by omega
  have hAPP := all_app s d p l _ _ _ _ es ed
  obtain ⟨Z, hZ⟩ : ∃ Z, UInt8.ofNat p = Z := ⟨_, rfl⟩
  rw [hZ] at hAPP
  have hpz : (p : Int) = (Z.toNat : Int) := by rw [← hZ, UInt8.toNat_ofNat']; omega
  have hzm : (Z.toNat : Int) % 256 = (Z.toNat : Int) := by have := Z.toNat_lt; omega
  have HAPP := Lib.hid hAPP
  have HLS := Lib.hid (And.intro ls1 (And.intro ls2 (And.intro ld1 ld2)))
  have HMD := Lib.hid (made_nil w)
  have HB := Lib.hid h
  have HL := Lib.hid h.1
  have HN := Lib.hid hn
  clear h hAPP hZ es ed ls1 ls2 ld1 ld2 hs hd
  go_enter Tryd.func52, Tryd.ntmps52
  go_wp2_with (fail)
  refine (qlay_yes w (.slice none 0 0) ([]) _ _ HMD.out (HLS.out.1) (by simp)).mono ?_
  rintro e u1 ⟨v1, rfl, hm1⟩
  have HM1 := Lib.hid hm1
  clear hm1
  go_wp2_with (fail)
  refine (qlay_yes w v1 ([] ++ beM 2 s1) _ _ HM1.out (HLS.out.2.1) (by simp only [List.length_append, beM_len, List.length_cons, List.length_nil] <;> omega)).mono ?_
  rintro e u2 ⟨v2, rfl, hm2⟩
  have HM2 := Lib.hid hm2
  clear hm2 HM1
  go_wp2_with (fail)
  refine (qlay_yes w v2 ([] ++ beM 2 s1 ++ beM 2 s2) _ _ HM2.out (HLS.out.2.2.1) (by simp only [List.length_append, beM_len, List.length_cons, List.length_nil] <;> omega)).mono ?_
  rintro e u3 ⟨v3, rfl, hm3⟩
  have HM3 := Lib.hid hm3
  clear hm3 HM2
  go_wp2_with (fail)
  refine (qlay_yes w v3 ([] ++ beM 2 s1 ++ beM 2 s2 ++ beM 2 d1) _ _ HM3.out (HLS.out.2.2.2) (by simp only [List.length_append, beM_len, List.length_cons, List.length_nil] <;> omega)).mono ?_
  rintro e u4 ⟨v4, rfl, hm4⟩
  have HM4 := Lib.hid hm4
  clear hm4 HM3
  have HBL2 := Lib.hid (Byt.lit u4 [0, Z] 5 (by simp))
  have HKL := Lib.hid ((Kept.refl Nil u4).alloc (.cells (bys [0, Z]).toArray 5))
  have HO4 := Lib.hid (own_kept HM4.out.1 HKL.out (fun _ _ hf => hf))
  have HS4 := Lib.hid HM4.out.2.size
  go_upto_region 7 with (first | (at_builtin; refine wpList_any rfl _ _ 22 rfl w.heap.size 5 i0 (.int .u8 0) Tryd.underlying22 hi hz0 hz1 hz2 rfl v4 _ _ rfl HO4.out (some ⟨u4.heap.size, 0, none⟩) 2 2 [0, Z] rfl HBL2.out (by simp only [List.length_append, beM_len, List.length_cons, List.length_nil]; omega) (by have := HS4.out; simp; omega) ?_; intro v5 u5 hown5 hgrow5 hob5; simp only [Act.put]) | fail)
  have HM5 := Lib.hid (made_app HM4.out HKL.out hown5 hgrow5 rfl rfl)
  clear hown5 hgrow5 hob5 HM4 HO4 HBL2 HKL
  go_wp2_with (fail)
  refine (qlay_yes w v5 ([] ++ beM 2 s1 ++ beM 2 s2 ++ beM 2 d1 ++ beM 2 d2 ++ [0, Z]) _ _ HM5.out (by have := HN.out; omega) (by simp only [List.length_append, beM_len, List.length_cons, List.length_nil] <;> omega)).mono ?_
  rintro e u6 ⟨v6, rfl, hm6⟩
  have HM6 := Lib.hid hm6
  clear hm6 HM5
  have HS6 := Lib.hid HM6.out.2.size
  have HB6 := Lib.hid (HB.out.kept HM6.out.2 (fun _ _ hf => hf))
  go_wp2_with (first | (at_builtin; refine wpList_any rfl _ _ 22 rfl w.heap.size 5 i0 (.int .u8 0) Tryd.underlying22 hi hz0 hz1 hz2 rfl v6 _ _ rfl HM6.out.1 A n c l rfl HB6.out (by have := HN.out; simp only [List.length_append, beM_len, List.length_cons, List.length_nil]; omega) (by have := HS6.out; omega) ?_; intro v7 u7 hown hgrow hob; simp only [Act.put]) | fail)
  have HM7 := Lib.hid (made_app HM6.out (Kept.refl Nil u6) hown hgrow rfl HL.out)
  clear hown hgrow hob HM6 HB6
  go_ret
  have hm7 := HM7.out
  rw [← HL.out, HAPP.out] at hm7
  exact ⟨_, rfl, hm7⟩
end Go.Proofs.YthjbabkmjmfmjaaDoor
