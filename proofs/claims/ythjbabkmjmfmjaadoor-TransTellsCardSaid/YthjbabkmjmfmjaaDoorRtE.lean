/- tollref07: contracts of TcpBytes, UdpBytes. -/
import Derived.Test.YthjbabkmjmfmjaaDoorRtD
namespace Go.Proofs.YthjbabkmjmfmjaaDoor
open Go.RowKit Go.Sort
set_option linter.unusedVariables false

theorem u32_parts (x : Nat) (h : x < 4294967296) : ∃ a b : Nat, (x : Int) / 65536 = (a : Int) ∧ (x : Int) % 65536 = (b : Int) ∧ a < 65536 ∧ b < 65536 ∧ beM 2 a ++ beM 2 b = beM 4 x := ⟨x / 65536, x % 65536, by omega, by omega, by omega, by omega, be4_split x⟩
theorem tcB_app (h : Tc) (s1 s2 a1 a2 : List UInt8) (es : s1 ++ s2 = beM 4 h.s) (ea : a1 ++ a2 = beM 4 h.a) : [] ++ beM 2 h.f ++ beM 2 h.t ++ s1 ++ s2 ++ a1 ++ a2 ++ [UInt8.ofNat ((5 + h.x.length / 4) * 16 + h.o), UInt8.ofNat h.g] ++ beM 2 h.w ++ beM 2 h.c ++ beM 2 h.u ++ h.x ++ h.b = tcB h := by
  unfold tcB
  rw [← es, ← ea]
  simp only [List.append_assoc, List.nil_append, List.cons_append]
set_option maxRecDepth 100000 in
set_option maxHeartbeats 16000000 in
theorem qtbytes_yes (h : Tc) (hok : h.ok) (A : Option Addr) (n c : Nat) (B : Option Addr) (m d : Nat) (w : World) (hx : Byt w A n c h.x) (hb : Byt w B m d h.b) (hn : n ≤ 1099511627776) (hm : m ≤ 1000000000) :
    Calls Tryd.prog 27 #[.agg (tqs h A n c B m d).toArray] w fun e w' => ∃ v, e = .returned (.tuple #[v, .int .i64 (tellT h).2]) ∧ Made w w' v (tellT h).1 := by
  have hP := TQ.new w 34 h A n c B m d
  have hk := (Kept.refl Nil w).alloc (.cells (tqs h A n c B m d).toArray 34)
  have hxl := hx.1
  have hbl := hb.1
  have HXL := Lib.hid hxl
  have HBL := Lib.hid hbl
  have HX := Lib.hid (hx.kept hk (fun _ _ hf => hf))
  have HB := Lib.hid (hb.kept hk (fun _ _ hf => hf))
  have HTE := Lib.hid (show tellT h = if 15 < h.o ∨ 40 < n ∨ n % 4 ≠ 0 then ([], 1) else (tcB h, 0) by unfold tellT; rw [hxl])
  have hob := hok.o
  have HOK := Lib.hid hok
  clear hx hb hxl hbl hok
  go_enter Tryd.func27, Tryd.ntmps27
  go_upto_region 1 with (fail)
  refine wp_nameE (fun W => TQ W w.heap.size 34 h A n c B m d ∧ Kept Nil w W ∧ Byt W A n c h.x ∧ Byt W B m d h.b) ⟨hP, hk, HX.out, HB.out⟩ ?_
  clear hP hk HX HB
  rintro W ⟨hP, hk, hx, hb⟩
  have c2 := hP.co
  have c9 := hP.cx
  have HP := Lib.hid hP
  have HK := Lib.hid hk
  have HX := Lib.hid hx
  have HB := Lib.hid hb
  clear hP hk hx hb
  by_cases h1 : 15 < h.o ∨ 40 < n ∨ n % 4 ≠ 0
  · have HR := Lib.hid (show tellT h = ([], 1) by rw [HTE.out, if_pos h1])
    have key : decide ((15 : Int) < (h.o : Int)) = true ∨ (decide ((15 : Int) < (h.o : Int)) = false ∧ decide ((40 : Int) < (n : Int)) = true) ∨ (decide ((15 : Int) < (h.o : Int)) = false ∧ decide ((40 : Int) < (n : Int)) = false ∧ ((n : Int) % 4 != 0) = true) := by
      by_cases a1 : 15 < h.o
      · exact .inl (by simp; omega)
      · by_cases a2 : 40 < n
        · exact .inr (.inl ⟨by simp; omega, by simp; omega⟩)
        · exact .inr (.inr ⟨by simp; omega, by simp; omega, by simp; omega⟩)
    clear h1 hob
    rcases key with k1 | ⟨k1, k2⟩ | ⟨k1, k2, k3⟩
    all_goals
      go_wp2
      go_ret2
      exact ⟨.slice none 0 0, by rw [HR.out]; rfl, by rw [HR.out]; exact World.ownsRow_nil _ _ _ _, HK.out⟩
  · have HR := Lib.hid (show tellT h = (tcB h, 0) by rw [HTE.out, if_neg h1])
    have k1 : decide ((15 : Int) < (h.o : Int)) = false := by simp; omega
    have k2 : decide ((40 : Int) < (n : Int)) = false := by simp; omega
    have k3 : ((n : Int) % 4 != 0) = false := by simp; omega
    obtain ⟨i0, hi, hz0, hz1, hz2⟩ := info_parts Tryd.infb
    obtain ⟨s1, s2, es1, es2, ls1, ls2, es⟩ := u32_parts h.s HOK.out.s
    obtain ⟨a1, a2, ea1, ea2, la1, la2, ea⟩ := u32_parts h.a HOK.out.a
    have hg := HOK.out.g
    have ms1 : (s1 : Int) % 4294967296 = (s1 : Int) := by omega
    have ms2 : (s2 : Int) % 4294967296 = (s2 : Int) := by omega
    have ma1 : (a1 : Int) % 4294967296 = (a1 : Int) := by omega
    have ma2 : (a2 : Int) % 4294967296 = (a2 : Int) := by omega
    obtain ⟨q, hq⟩ : ∃ q, n / 4 = q := ⟨_, rfl⟩
    have hqi : (n : Int) / 4 = (q : Int) := by omega
    have hq10 : q ≤ 10 := by omega
    have ho16 : h.o < 16 := by omega
    have hz : IntKind.wrap .u8 ((5 + (q : Int)) * 16 + (h.o : Int)) = ((UInt8.ofNat ((5 + h.x.length / 4) * 16 + h.o)).toNat : Int) := by rw [IntWalk.u8_in _ (by omega), UInt8.toNat_ofNat', HXL.out, hq]; omega
    have hy : IntKind.wrap .u8 (h.g : Int) = ((UInt8.ofNat h.g).toNat : Int) := by rw [IntWalk.u8_in _ (by omega), UInt8.toNat_ofNat']; omega
    have hz' : (5 + (q : Int)) * 16 + (h.o : Int) = ((UInt8.ofNat ((5 + h.x.length / 4) * 16 + h.o)).toNat : Int) := by rw [UInt8.toNat_ofNat', HXL.out, hq]; omega
    have hy' : (h.g : Int) = ((UInt8.ofNat h.g).toNat : Int) := by rw [UInt8.toNat_ofNat']; omega
    have hAPP := tcB_app h _ _ _ _ es ea
    obtain ⟨Z, hZZ⟩ : ∃ Z, UInt8.ofNat ((5 + h.x.length / 4) * 16 + h.o) = Z := ⟨_, rfl⟩
    obtain ⟨Y, hYY⟩ : ∃ Y, UInt8.ofNat h.g = Y := ⟨_, rfl⟩
    rw [hZZ] at hz hz' hAPP
    rw [hYY] at hy hy' hAPP
    have HAPP := Lib.hid hAPP
    have HLS := Lib.hid (And.intro ls1 (And.intro ls2 (And.intro la1 la2)))
    have HXN := Lib.hid (show n ≤ 40 by omega)
    have HZY := Lib.hid (And.intro hz (And.intro hz' (And.intro hy hy')))
    have HMD := Lib.hid (made_nil W)
    clear h1 hob hq HTE es ea ls1 ls2 la1 la2 hAPP hZZ hYY hz hz' hy hy' hg
    have c0 := (HP.out.kept HMD.out.2 (fun hf => hf)).cf
    go_wp2_with (fail)
    refine (qlay_yes W (.slice none 0 0) ([]) h.f _ HMD.out (HOK.out.f) (by simp only [List.length_append, beM_len, List.length_cons, List.length_nil] <;> omega)).mono ?_
    rintro e u1 ⟨v1, rfl, hm1⟩
    have HM1 := Lib.hid hm1
    clear hm1 c0
    have c1 := (HP.out.kept HM1.out.2 (fun hf => hf)).ct
    go_wp2_with (fail)
    refine (qlay_yes W v1 ([] ++ beM 2 h.f) h.t _ HM1.out (HOK.out.t) (by simp only [List.length_append, beM_len, List.length_cons, List.length_nil] <;> omega)).mono ?_
    rintro e u2 ⟨v2, rfl, hm2⟩
    have HM2 := Lib.hid hm2
    clear hm2 c1 HM1
    have c7 := (HP.out.kept HM2.out.2 (fun hf => hf)).cs
    go_wp2_with (fail)
    refine (qlay_yes W v2 ([] ++ beM 2 h.f ++ beM 2 h.t) s1 _ HM2.out (HLS.out.1) (by simp only [List.length_append, beM_len, List.length_cons, List.length_nil] <;> omega)).mono ?_
    rintro e u3 ⟨v3, rfl, hm3⟩
    have HM3 := Lib.hid hm3
    clear hm3 c7 HM2
    have c7 := (HP.out.kept HM3.out.2 (fun hf => hf)).cs
    go_wp2_with (fail)
    refine (qlay_yes W v3 ([] ++ beM 2 h.f ++ beM 2 h.t ++ beM 2 s1) s2 _ HM3.out (HLS.out.2.1) (by simp only [List.length_append, beM_len, List.length_cons, List.length_nil] <;> omega)).mono ?_
    rintro e u4 ⟨v4, rfl, hm4⟩
    have HM4 := Lib.hid hm4
    clear hm4 c7 HM3
    have c8 := (HP.out.kept HM4.out.2 (fun hf => hf)).ca
    go_wp2_with (fail)
    refine (qlay_yes W v4 ([] ++ beM 2 h.f ++ beM 2 h.t ++ beM 2 s1 ++ beM 2 s2) a1 _ HM4.out (HLS.out.2.2.1) (by simp only [List.length_append, beM_len, List.length_cons, List.length_nil] <;> omega)).mono ?_
    rintro e u5 ⟨v5, rfl, hm5⟩
    have HM5 := Lib.hid hm5
    clear hm5 c8 HM4
    have c8 := (HP.out.kept HM5.out.2 (fun hf => hf)).ca
    go_wp2_with (fail)
    refine (qlay_yes W v5 ([] ++ beM 2 h.f ++ beM 2 h.t ++ beM 2 s1 ++ beM 2 s2 ++ beM 2 a1) a2 _ HM5.out (HLS.out.2.2.2) (by simp only [List.length_append, beM_len, List.length_cons, List.length_nil] <;> omega)).mono ?_
    rintro e u6 ⟨v6, rfl, hm6⟩
    have HM6 := Lib.hid hm6
    clear hm6 c8 HM5
    have c2 := (HP.out.kept HM6.out.2 (fun hf => hf)).co
    have c3 := (HP.out.kept HM6.out.2 (fun hf => hf)).cg
    obtain ⟨hz, hz', hy, hy'⟩ := HZY.out
    have hzm : (Z.toNat : Int) % 256 = (Z.toNat : Int) := by have := Z.toNat_lt; omega
    have hym : (Y.toNat : Int) % 256 = (Y.toNat : Int) := by have := Y.toNat_lt; omega
    have hBL := Byt.lit u6 [Z, Y] 5 (by simp)
    have hkL := (Kept.refl Nil u6).alloc (.cells (bys [Z, Y]).toArray 5)
    have HBL2 := Lib.hid hBL
    have HKL := Lib.hid hkL
    have HO6 := Lib.hid (own_kept HM6.out.1 hkL (fun _ _ hf => hf))
    have HS6 := Lib.hid HM6.out.2.size
    clear hBL hkL
    go_upto_region 12 with (first | (at_builtin; refine wpList_any rfl _ _ 22 rfl W.heap.size 5 i0 (.int .u8 0) Tryd.underlying22 hi hz0 hz1 hz2 rfl v6 _ _ rfl HO6.out (some ⟨u6.heap.size, 0, none⟩) 2 2 [Z, Y] rfl HBL2.out (by simp only [List.length_append, beM_len, List.length_cons, List.length_nil]; omega) (by have := HS6.out; simp; omega) ?_; intro v7 u7 hown7 hgrow7 hob7; simp only [Act.put]) | fail)
    have HM7 := Lib.hid (made_app HM6.out HKL.out hown7 hgrow7 rfl rfl)
    clear hown7 hgrow7 hob7 HM6 HO6 HBL2 HKL hz hz' hy hy' hzm hym c2 c3
    have c4 := (HP.out.kept HM7.out.2 (fun hf => hf)).cw
    go_wp2_with (fail)
    refine (qlay_yes W v7 ([] ++ beM 2 h.f ++ beM 2 h.t ++ beM 2 s1 ++ beM 2 s2 ++ beM 2 a1 ++ beM 2 a2 ++ [Z, Y]) h.w _ HM7.out (HOK.out.w) (by simp only [List.length_append, beM_len, List.length_cons, List.length_nil] <;> omega)).mono ?_
    rintro e u8 ⟨v8, rfl, hm8⟩
    have HM8 := Lib.hid hm8
    clear hm8 c4 HM7
    have c5 := (HP.out.kept HM8.out.2 (fun hf => hf)).cc
    go_wp2_with (fail)
    refine (qlay_yes W v8 ([] ++ beM 2 h.f ++ beM 2 h.t ++ beM 2 s1 ++ beM 2 s2 ++ beM 2 a1 ++ beM 2 a2 ++ [Z, Y] ++ beM 2 h.w) h.c _ HM8.out (HOK.out.c) (by simp only [List.length_append, beM_len, List.length_cons, List.length_nil] <;> omega)).mono ?_
    rintro e u9 ⟨v9, rfl, hm9⟩
    have HM9 := Lib.hid hm9
    clear hm9 c5 HM8
    have c6 := (HP.out.kept HM9.out.2 (fun hf => hf)).cu
    go_wp2_with (fail)
    refine (qlay_yes W v9 ([] ++ beM 2 h.f ++ beM 2 h.t ++ beM 2 s1 ++ beM 2 s2 ++ beM 2 a1 ++ beM 2 a2 ++ [Z, Y] ++ beM 2 h.w ++ beM 2 h.c) h.u _ HM9.out (HOK.out.u) (by simp only [List.length_append, beM_len, List.length_cons, List.length_nil] <;> omega)).mono ?_
    rintro e u10 ⟨v10, rfl, hm10⟩
    have HM10 := Lib.hid hm10
    clear hm10 c6 HM9
    have c9 := (HP.out.kept HM10.out.2 (fun hf => hf)).cx
    have HS10 := Lib.hid HM10.out.2.size
    have HX10 := Lib.hid (HX.out.kept HM10.out.2 (fun _ _ hf => hf))
    go_upto_region 16 with (first | (at_builtin; refine wpList_any rfl _ _ 22 rfl W.heap.size 5 i0 (.int .u8 0) Tryd.underlying22 hi hz0 hz1 hz2 rfl v10 _ _ rfl HM10.out.1 A n c h.x rfl HX10.out (by have := HXN.out; simp only [List.length_append, beM_len, List.length_cons, List.length_nil]; omega) (by have := HS10.out; omega) ?_; intro v11 u11 hown hgrow hob; simp only [Act.put]) | fail)
    have HM11 := Lib.hid (made_app HM10.out (Kept.refl Nil u10) hown hgrow rfl HXL.out)
    clear hown hgrow hob HM10 HX10 c9
    have c10 := (HP.out.kept HM11.out.2 (fun hf => hf)).cb
    have HS11 := Lib.hid HM11.out.2.size
    have HB11 := Lib.hid (HB.out.kept HM11.out.2 (fun _ _ hf => hf))
    go_wp2_with (first | (at_builtin; refine wpList_any rfl _ _ 22 rfl W.heap.size 5 i0 (.int .u8 0) Tryd.underlying22 hi hz0 hz1 hz2 rfl v11 _ _ rfl HM11.out.1 B m d h.b rfl HB11.out (by have := HXN.out; have := HXL.out; simp only [List.length_append, beM_len, List.length_cons, List.length_nil]; omega) (by have := HS11.out; omega) ?_; intro v12 u12 hown hgrow hob; simp only [Act.put]) | fail)
    have HM12 := Lib.hid (made_app HM11.out (Kept.refl Nil u11) hown hgrow rfl HBL.out)
    clear hown hgrow hob HM11 HB11 c10
    go_ret2
    have hm12 := HM12.out
    rw [HAPP.out] at hm12
    rw [HR.out]
    exact ⟨_, rfl, own_mono hm12.1 HK.out.size, HK.out.then hm12.2⟩
theorem udB_app (h : Ud) : [] ++ beM 2 h.f ++ beM 2 h.t ++ beM 2 h.n ++ beM 2 h.c ++ h.b = udB h := by
  unfold udB
  simp only [List.append_assoc, List.nil_append]
set_option maxRecDepth 100000 in
set_option maxHeartbeats 16000000 in
theorem qubytes_yes (h : Ud) (hok : h.ok) (B : Option Addr) (m d : Nat) (w : World) (hb : Byt w B m d h.b) (hm : m ≤ 1000000000) :
    Calls Tryd.prog 29 #[.agg (uqs h B m d).toArray] w fun e w' => ∃ v, e = .returned (.tuple #[v, .int .i64 (tellU h).2]) ∧ Made w w' v (tellU h).1 := by
  have hP := UQ.new w 42 h B m d
  have hk := (Kept.refl Nil w).alloc (.cells (uqs h B m d).toArray 42)
  have hbl := hb.1
  have HBL := Lib.hid hbl
  have HB := Lib.hid (hb.kept hk (fun _ _ hf => hf))
  have HTE := Lib.hid (show tellU h = if h.n ≠ 8 + m then ([], 1) else (udB h, 0) by unfold tellU; rw [hbl])
  have HOK := Lib.hid hok
  clear hb hbl hok
  go_enter Tryd.func29, Tryd.ntmps29
  go_upto_region 1 with (fail)
  refine wp_nameE (fun W => UQ W w.heap.size 42 h B m d ∧ Kept Nil w W ∧ Byt W B m d h.b) ⟨hP, hk, HB.out⟩ ?_
  clear hP hk HB
  rintro W ⟨hP, hk, hb⟩
  have c2 := hP.cn
  have c4 := hP.cb
  have HP := Lib.hid hP
  have HK := Lib.hid hk
  have HB := Lib.hid hb
  clear hP hk hb
  by_cases h1 : h.n = 8 + m
  · have HR := Lib.hid (show tellU h = (udB h, 0) by rw [HTE.out, if_neg (fun e => e h1)])
    have k1 : ((h.n : Int) != 8 + (m : Int)) = false := by simp; omega
    obtain ⟨i0, hi, hz0, hz1, hz2⟩ := info_parts Tryd.infb
    have HMD := Lib.hid (made_nil W)
    have HAPP := Lib.hid (udB_app h)
    clear h1 HTE
    have c0 := (HP.out.kept HMD.out.2 (fun hf => hf)).cf
    go_wp2_with (fail)
    refine (qlay_yes W (.slice none 0 0) ([]) h.f _ HMD.out (HOK.out.f) (by simp only [List.length_append, beM_len, List.length_cons, List.length_nil] <;> omega)).mono ?_
    rintro e u1 ⟨v1, rfl, hm1⟩
    have HM1 := Lib.hid hm1
    clear hm1 c0
    have c1 := (HP.out.kept HM1.out.2 (fun hf => hf)).ct
    go_wp2_with (fail)
    refine (qlay_yes W v1 ([] ++ beM 2 h.f) h.t _ HM1.out (HOK.out.t) (by simp only [List.length_append, beM_len, List.length_cons, List.length_nil] <;> omega)).mono ?_
    rintro e u2 ⟨v2, rfl, hm2⟩
    have HM2 := Lib.hid hm2
    clear hm2 c1 HM1
    have c2 := (HP.out.kept HM2.out.2 (fun hf => hf)).cn
    go_wp2_with (fail)
    refine (qlay_yes W v2 ([] ++ beM 2 h.f ++ beM 2 h.t) h.n _ HM2.out (HOK.out.n) (by simp only [List.length_append, beM_len, List.length_cons, List.length_nil] <;> omega)).mono ?_
    rintro e u3 ⟨v3, rfl, hm3⟩
    have HM3 := Lib.hid hm3
    clear hm3 c2 HM2
    have c3 := (HP.out.kept HM3.out.2 (fun hf => hf)).cc
    go_wp2_with (fail)
    refine (qlay_yes W v3 ([] ++ beM 2 h.f ++ beM 2 h.t ++ beM 2 h.n) h.c _ HM3.out (HOK.out.c) (by simp only [List.length_append, beM_len, List.length_cons, List.length_nil] <;> omega)).mono ?_
    rintro e u4 ⟨v4, rfl, hm4⟩
    have HM4 := Lib.hid hm4
    clear hm4 c3 HM3
    have c4 := (HP.out.kept HM4.out.2 (fun hf => hf)).cb
    have HS4 := Lib.hid HM4.out.2.size
    have HB4 := Lib.hid (HB.out.kept HM4.out.2 (fun _ _ hf => hf))
    go_wp2_with (first | (at_builtin; refine wpList_any rfl _ _ 22 rfl W.heap.size 5 i0 (.int .u8 0) Tryd.underlying22 hi hz0 hz1 hz2 rfl v4 _ _ rfl HM4.out.1 B m d h.b rfl HB4.out (by simp only [List.length_append, beM_len, List.length_cons, List.length_nil]; omega) (by have := HS4.out; omega) ?_; intro v5 u5 hown hgrow hob; simp only [Act.put]) | fail)
    have HM5 := Lib.hid (made_app HM4.out (Kept.refl Nil u4) hown hgrow rfl HBL.out)
    clear hown hgrow hob HM4 HB4 c4
    go_ret2
    have hm5 := HM5.out
    rw [HAPP.out] at hm5
    rw [HR.out]
    exact ⟨_, rfl, own_mono hm5.1 HK.out.size, HK.out.then hm5.2⟩
  · have HR := Lib.hid (show tellU h = ([], 1) by rw [HTE.out, if_pos h1])
    have k1 : ((h.n : Int) != 8 + (m : Int)) = true := by simp; omega
    clear h1
    go_wp2
    go_ret2
    exact ⟨.slice none 0 0, by rw [HR.out]; rfl, by rw [HR.out]; exact World.ownsRow_nil _ _ _ _, HK.out⟩
end Go.Proofs.YthjbabkmjmfmjaaDoor
