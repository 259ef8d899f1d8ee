/- Package trans: contract of a TCP head's Bytes. -/
import Derived.Test.YthjbabkmjmfmjaaDoorMg6
import Derived.Test.YthjbabkmjmfmjaaDoorMg20
import Derived.Test.YthjbabkmjmfmjaaDoorMg21
import Derived.Deep.DeepCutAuto
namespace Go.Proofs.YthjbabkmjmfmjaaDoor
open Go.RowKit Go.Sort
set_option linter.unusedVariables false

/-- What the pad holds, act by act. -/
def lsT (z : Nat) (h : Tc) : Nat → List UInt8
  | 0 => []
  | 1 => []
  | 2 => beAll 2 [h.f, h.t]
  | 3 => beAll 2 [h.f, h.t] ++ beAll 4 [h.s, h.a]
  | 4 => beAll 2 [h.f, h.t] ++ beAll 4 [h.s, h.a] ++ beAll 1 [z, h.g]
  | 5 => beAll 2 [h.f, h.t] ++ beAll 4 [h.s, h.a] ++ beAll 1 [z, h.g] ++ beAll 2 [h.w, h.c, h.u]
  | _ => beAll 2 [h.f, h.t] ++ beAll 4 [h.s, h.a] ++ beAll 1 [z, h.g] ++ beAll 2 [h.w, h.c, h.u] ++ h.x
theorem lsT_len (z : Nat) (h : Tc) (i : Nat) : (lsT z h i).length ≤ 20 + h.x.length := by
  unfold lsT
  split <;> simp only [List.length_append, beAll_len, List.length_cons, List.length_nil] <;> omega
theorem lsT_all (h : Tc) : lsT ((5 + h.x.length / 4) * 16 + h.o) h 6 ++ h.b = tcB h := by
  show beAll 2 [h.f, h.t] ++ beAll 4 [h.s, h.a] ++ beAll 1 [(5 + h.x.length / 4) * 16 + h.o, h.g] ++ beAll 2 [h.w, h.c, h.u] ++ h.x ++ h.b = _
  unfold tcB
  simp only [beAll, List.map_cons, List.map_nil, List.flatten_cons, List.flatten_nil, show ∀ x, beM 1 x = [UInt8.ofNat x] from fun x => by simp [beM, List.range_succ], List.append_nil, List.append_assoc, List.cons_append, List.nil_append]
theorem or_16u (k o : Nat) (hk : k < 16) (ho : o < 16) : bits .or .u8 ((k * 16 : Nat) : Int) (o : Int) = ((k * 16 + o : Nat) : Int) := by
  have := u8_or_nat (k * 16) o (by omega) (by omega)
  rw [nat_join 4 (k * 16) o (by rw [show (2 : Nat) ^ 4 = 16 from rfl]; omega) (by rw [show (2 : Nat) ^ 4 = 16 from rfl]; omega)] at this
  exact this
set_option maxRecDepth 100000 in
set_option maxHeartbeats 16000000 in
theorem tbytes_yes (h : Tc) (hok : h.ok) (A : Option Addr) (n c : Nat) (B : Option Addr) (m d : Nat) (w : World) (hx : Byt w A n c h.x) (hb : Byt w B m d h.b) (hn : n ≤ 1099511627776) (hm : m ≤ 1000000000) :
    Calls Tryd.prog 26 #[.agg (tcs h A n c B m d).toArray] w fun e w' => ∃ v, e = .returned (.tuple #[v, .int .i64 (tellT h).2]) ∧ Made w w' v (tellT h).1 := by
  have hP := TB.new w 29 h A n c B m d
  have hk := (Kept.refl Nil w).alloc (.cells (tcs h A n c B m d).toArray 29)
  have hxl := hx.1
  have hbl := hb.1
  have HXL := Lib.hid hxl
  have HBL := Lib.hid hbl
  have HX := Lib.hid hx
  have HB := Lib.hid hb
  have HOK := Lib.hid hok
  have HTE := Lib.hid (show tellT h = if 15 < h.o ∨ 40 < n ∨ n % 4 ≠ 0 then ([], 1) else (tcB h, 0) by unfold tellT; rw [hxl])
  have hob := hok.o
  clear hx hb hxl hbl hok
  go_enter Tryd.func26, Tryd.ntmps26
  go_upto_region 1 with (fail)
  refine wp_nameE (fun W => TB W w.heap.size 29 h A n c B m d ∧ Kept Nil w W) ⟨hP, hk⟩ ?_
  clear hP hk
  rintro W ⟨hP, hk⟩
  have c4 := hP.co
  have c9 := hP.cx
  have HP := Lib.hid hP
  have HK := Lib.hid hk
  clear hP hk
  by_cases h1 : 15 < h.o ∨ 40 < n ∨ n % 4 ≠ 0
  · have HR := Lib.hid (show tellT h = ([], 1) by rw [HTE.out, if_pos h1])
    have key : decide ((15 : Int) < (h.o : Int)) = true ∨ (decide ((15 : Int) < (h.o : Int)) = false ∧ decide ((40 : Int) < (n : Int)) = true) ∨ (decide ((15 : Int) < (h.o : Int)) = false ∧ decide ((40 : Int) < (n : Int)) = false ∧ ((n : Int) % 4 != 0) = true) := by
      by_cases a1 : 15 < h.o
      · exact .inl (by simp; omega)
      · by_cases a2 : 40 < n
        · exact .inr (.inl ⟨by simp; omega, by simp; omega⟩)
        · exact .inr (.inr ⟨by simp; omega, by simp; omega, by simp; omega⟩)
    clear h1 hob
    rcases key with k1 | ⟨k1, k2⟩ | ⟨k1, k2, k3⟩
    all_goals
      go_wp2
      go_ret2
      exact ⟨.slice none 0 0, by rw [HR.out]; rfl, by rw [HR.out]; exact World.ownsRow_nil _ _ _ _, HK.out⟩
  · have HR := Lib.hid (show tellT h = (tcB h, 0) by rw [HTE.out, if_neg h1])
    have k1 : decide ((15 : Int) < (h.o : Int)) = false := by simp; omega
    have k2 : decide ((40 : Int) < (n : Int)) = false := by simp; omega
    have k3 : ((n : Int) % 4 != 0) = false := by simp; omega
    obtain ⟨q, hq⟩ : ∃ q, 5 + n / 4 = q := ⟨_, rfl⟩
    have hqi : (20 + (n : Int)) / 4 = (q : Int) := by omega
    have hq16 : q < 16 := by omega
    have ho16 : h.o < 16 := by omega
    have HQ := Lib.hid (show q = 5 + h.x.length / 4 by rw [HXL.out]; exact hq.symm)
    have hn40 : n ≤ 40 := by omega
    have HN40 := Lib.hid hn40
    have HLE := Lib.hid (show ∀ i, (lsT (q * 16 + h.o) h i).length ≤ 60 from fun i => by have := lsT_len (q * 16 + h.o) h i; have := HXL.out; omega)
    have hor := or_16u q h.o hq16 ho16
    obtain ⟨z, hz⟩ : ∃ z, q * 16 + h.o = z := ⟨_, rfl⟩
    have hz256 : z < 256 := by omega
    have HZ := Lib.hid (show z = (5 + h.x.length / 4) * 16 + h.o by rw [← hz, HQ.out])
    have HZ6 := Lib.hid hz256
    rw [hz, show ((q * 16 : Nat) : Int) = (q : Int) * 16 by omega] at hor
    rw [hz] at HLE
    clear h1 hob hq hz HTE hz256
    go_upto_region 4 with (fail)
    have HKP := Lib.hid (padJ_keeps W.heap.size (lsT z h))
    have HST := Lib.hid (padJ_nil W (lsT z h))
    refine wp_region_acts Nil [0, 6, 12, 21, 29, 32] (fun i vl => if i = 5 then (vl.toArray, 27) else if i = 11 then (vl.toArray, 23) else if i = 20 then (vl.toArray, 5) else (vl.toArray, 27)) (fun i => undef) (padJ W.heap.size (lsT z h)) padP 33 (by kernel_rfl) (by kernel_rfl) HKP.out HST.out ?_
    simp only [List.take_succ_cons, List.take_zero, List.drop_succ_cons, List.drop_zero]
    refine tLex_act 46 #[] (fun u => ?hea) rfl rfl _ (padP_0 _) ?hca ?_
    case hea => simp [execOp, go_sem]
    case hca =>
      intro D u hu hI hdd
      exact padJ_lay hu hI rfl _
    rintro r0 ⟨g, rfl⟩
    simp only [Act.put, List.setIfInBounds_toArray, List.set_cons_succ, List.set_cons_zero]
    refine tLex_quiets 4 rfl (by kernel_rfl) ?_
    simp only [List.take_succ_cons, List.take_zero, List.drop_succ_cons, List.drop_zero]
    apply Exists.intro
    refine ⟨?hq0, ?hv0, ?ht0⟩
    case hq0 =>
      intro V hV
      have ef := fun d os => ((HP.out.kept hV (fun hf => hf)).kept (kept_grown' V d os) (fun hf => hf)).cf
      have et := fun d os => ((HP.out.kept hV (fun hf => hf)).kept (kept_grown' V d os) (fun hf => hf)).ct
      clear hV
      repeat (go_big_quiet_step (fail))
      exact wpQuiet_nil rfl
    case hv0 => exact ⟨trivial, trivial, trivial, trivial, trivial⟩
    refine tLex_make (#[.int .u16 (h.f : Int), .int .u16 (h.t : Int)], 27) rfl rfl rfl rfl (fun u => ?hm0) ?_
    case hm0 => simp [execOp, mkVal, Instr.buildSlice, go_sem]
    intro q0 hg hL
    simp only [Act.put, mkVal, List.setIfInBounds_toArray, List.set_cons_succ, List.set_cons_zero]
    refine tLex_act 54 #[.pointer (some ⟨g, 0, none⟩), .slice (some ⟨q0, 0, none⟩) 2 2] (fun u => ?he0) rfl rfl _ (padP_0 _) ?hc0 ?_
    case he0 => simp [execOp, go_sem, mkVal]
    case hc0 =>
      intro D u hu hI hdd
      obtain ⟨d1, d2⟩ := hdd _ _ ⟨_, List.mem_cons_of_mem _ (List.mem_cons_of_mem _ (List.mem_cons_self ..)), rfl⟩ (mput_same _ _ _)
      exact padJ_two (n := 2) [h.f, h.t] hu hI (by simp) d1 d2 rfl rfl rfl (by have := HLE.out 1; show ((lsT z h) 1).length + _ ≤ _; simp; omega) (by intro x hx; simp only [List.mem_cons, List.not_mem_nil, or_false] at hx; rcases hx with rfl | rfl; exact HOK.out.f; exact HOK.out.t) _
    rintro rg1 ⟨g1, rfl⟩
    simp only [Act.put, List.setIfInBounds_toArray, List.set_cons_succ, List.set_cons_zero]
    refine tLex_quiets 4 rfl (by kernel_rfl) ?_
    simp only [List.take_succ_cons, List.take_zero, List.drop_succ_cons, List.drop_zero]
    apply Exists.intro
    refine ⟨?hq1, ?hv1, ?ht1⟩
    case hq1 =>
      intro V hV
      have es := fun d os => ((HP.out.kept hV (fun hf => hf)).kept (kept_grown' V d os) (fun hf => hf)).cs
      have ea := fun d os => ((HP.out.kept hV (fun hf => hf)).kept (kept_grown' V d os) (fun hf => hf)).ca
      clear hV
      repeat (go_big_quiet_step (fail))
      exact wpQuiet_nil rfl
    case hv1 => exact ⟨trivial, trivial, trivial, trivial, trivial⟩
    refine tLex_make (#[.int .u32 (h.s : Int), .int .u32 (h.a : Int)], 23) rfl rfl rfl rfl (fun u => ?hm1) ?_
    case hm1 => simp [execOp, mkVal, Instr.buildSlice, go_sem]
    intro q1 hg hL
    simp only [Act.put, mkVal, List.setIfInBounds_toArray, List.set_cons_succ, List.set_cons_zero]
    refine tLex_act 55 #[.pointer (some ⟨g1, 0, none⟩), .slice (some ⟨q1, 0, none⟩) 2 2] (fun u => ?he1) rfl rfl _ (padP_0 _) ?hc1 ?_
    case he1 => simp [execOp, go_sem, mkVal]
    case hc1 =>
      intro D u hu hI hdd
      obtain ⟨d1, d2⟩ := hdd _ _ ⟨_, List.mem_cons_of_mem _ (List.mem_cons_of_mem _ (List.mem_cons_self ..)), rfl⟩ (mput_same _ _ _)
      exact padJ_four (n := 2) [h.s, h.a] hu hI (by simp) d1 d2 rfl rfl rfl (by have := HLE.out 2; show ((lsT z h) 2).length + _ ≤ _; simp; omega) (by intro x hx; simp only [List.mem_cons, List.not_mem_nil, or_false] at hx; rcases hx with rfl | rfl; exact HOK.out.s; exact HOK.out.a) _
    rintro rg2 ⟨g2, rfl⟩
    simp only [Act.put, List.setIfInBounds_toArray, List.set_cons_succ, List.set_cons_zero]
    refine tLex_quiets 7 rfl (by kernel_rfl) ?_
    simp only [List.take_succ_cons, List.take_zero, List.drop_succ_cons, List.drop_zero]
    apply Exists.intro
    refine ⟨?hq2, ?hv2, ?ht2⟩
    case hq2 =>
      intro V hV
      have eo := fun d os => ((HP.out.kept hV (fun hf => hf)).kept (kept_grown' V d os) (fun hf => hf)).co
      have eg := fun d os => ((HP.out.kept hV (fun hf => hf)).kept (kept_grown' V d os) (fun hf => hf)).cg
      clear hV
      repeat (go_big_quiet_step (fail))
      exact wpQuiet_nil rfl
    case hv2 => exact ⟨trivial, trivial, trivial, trivial, trivial, trivial, trivial, trivial⟩
    refine tLex_make (#[.int .u8 (z : Int), .int .u8 (h.g : Int)], 5) rfl rfl rfl rfl (fun u => ?hm2) ?_
    case hm2 => simp [execOp, mkVal, Instr.buildSlice, go_sem]
    intro q2 hg hL
    simp only [Act.put, mkVal, List.setIfInBounds_toArray, List.set_cons_succ, List.set_cons_zero]
    refine tLex_act 47 #[.pointer (some ⟨g2, 0, none⟩), .slice (some ⟨q2, 0, none⟩) 2 2] (fun u => ?he2) rfl rfl _ (padP_0 _) ?hc2 ?_
    case he2 => simp [execOp, go_sem, mkVal]
    case hc2 =>
      intro D u hu hI hdd
      obtain ⟨d1, d2⟩ := hdd _ _ ⟨_, List.mem_cons_of_mem _ (List.mem_cons_of_mem _ (List.mem_cons_self ..)), rfl⟩ (mput_same _ _ _)
      exact padJ_byte (n := 2) [z, h.g] hu hI (by simp) d1 d2 rfl rfl rfl (by have := HLE.out 3; show ((lsT z h) 3).length + _ ≤ _; simp; omega) (by intro x hx; simp only [List.mem_cons, List.not_mem_nil, or_false] at hx; rcases hx with rfl | rfl; exact HZ6.out; exact HOK.out.g) _
    rintro rg3 ⟨g3, rfl⟩
    simp only [Act.put, List.setIfInBounds_toArray, List.set_cons_succ, List.set_cons_zero]
    refine tLex_quiets 6 rfl (by kernel_rfl) ?_
    simp only [List.take_succ_cons, List.take_zero, List.drop_succ_cons, List.drop_zero]
    apply Exists.intro
    refine ⟨?hq3, ?hv3, ?ht3⟩
    case hq3 =>
      intro V hV
      have ew := fun d os => ((HP.out.kept hV (fun hf => hf)).kept (kept_grown' V d os) (fun hf => hf)).cw
      have ec := fun d os => ((HP.out.kept hV (fun hf => hf)).kept (kept_grown' V d os) (fun hf => hf)).cc
      have eu := fun d os => ((HP.out.kept hV (fun hf => hf)).kept (kept_grown' V d os) (fun hf => hf)).cu
      clear hV
      repeat (go_big_quiet_step (fail))
      exact wpQuiet_nil rfl
    case hv3 => exact ⟨trivial, trivial, trivial, trivial, trivial, trivial, trivial⟩
    refine tLex_make (#[.int .u16 (h.w : Int), .int .u16 (h.c : Int), .int .u16 (h.u : Int)], 27) rfl rfl rfl rfl (fun u => ?hm3) ?_
    case hm3 => simp [execOp, mkVal, Instr.buildSlice, go_sem]
    intro q3 hg hL
    simp only [Act.put, mkVal, List.setIfInBounds_toArray, List.set_cons_succ, List.set_cons_zero]
    refine tLex_act 54 #[.pointer (some ⟨g3, 0, none⟩), .slice (some ⟨q3, 0, none⟩) 3 3] (fun u => ?he3) rfl rfl _ (padP_0 _) ?hc3 ?_
    case he3 => simp [execOp, go_sem, mkVal]
    case hc3 =>
      intro D u hu hI hdd
      obtain ⟨d1, d2⟩ := hdd _ _ ⟨_, List.mem_cons_of_mem _ (List.mem_cons_of_mem _ (List.mem_cons_self ..)), rfl⟩ (mput_same _ _ _)
      exact padJ_two (n := 3) [h.w, h.c, h.u] hu hI (by simp) d1 d2 rfl rfl rfl (by have := HLE.out 4; show ((lsT z h) 4).length + _ ≤ _; simp; omega) (by intro x hx; simp only [List.mem_cons, List.not_mem_nil, or_false] at hx; rcases hx with rfl | rfl | rfl; exact HOK.out.w; exact HOK.out.c; exact HOK.out.u) _
    rintro rg4 ⟨g4, rfl⟩
    simp only [Act.put, List.setIfInBounds_toArray, List.set_cons_succ, List.set_cons_zero]
    refine tLex_quiets 2 rfl (by kernel_rfl) ?_
    simp only [List.take_succ_cons, List.take_zero, List.drop_succ_cons, List.drop_zero]
    apply Exists.intro
    refine ⟨?hq4, ?hv4, ?ht4⟩
    case hq4 =>
      intro V hV
      have ex := fun d os => ((HP.out.kept hV (fun hf => hf)).kept (kept_grown' V d os) (fun hf => hf)).cx
      clear hV
      repeat (go_big_quiet_step (fail))
      exact wpQuiet_nil rfl
    case hv4 => exact ⟨trivial, trivial, trivial⟩
    refine tLex_act 47 #[.pointer (some ⟨g4, 0, none⟩), .slice A n c] (fun u => ?he4) rfl rfl _ (padP_0 _) ?hc4 ?_
    case he4 => simp [execOp, go_sem]
    case hc4 =>
      intro D u hu hI hdd
      exact padJ_src (h.x) hu hI (by simp) (HX.out.kept HK.out (fun _ _ hf => hf)) rfl (by have := HLE.out 5; show ((lsT z h) 5).length + _ ≤ _; have := HN40.out; omega) _
    rintro rg5 ⟨g5, rfl⟩
    simp only [Act.put, List.setIfInBounds_toArray, List.set_cons_succ, List.set_cons_zero]
    intro w4 hs
    obtain ⟨v, hall, hpd, -⟩ := padJ_at hs.know (g := g5) (by simp)
    have hpd : Padd w4 W.heap.size g5 v ((lsT z h) 6) := hpd
    have HPD := Lib.hid hpd
    have HK4 := Lib.hid (HK.out.then hs.kept)
    have HP4 := Lib.hid (HP.out.kept hs.kept (fun hf => hf))
    have HB4 := Lib.hid (HB.out.kept HK4.out (fun _ _ hf => hf))
    have HL6 := Lib.hid (show (lsT z h 6).length ≤ 60 from HLE.out 6)
    have HAL := Lib.hid (show lsT z h 6 ++ h.b = tcB h by rw [HZ.out]; exact lsT_all h)
    have HSW := Lib.hid (show w.heap.size ≤ w4.heap.size from HK4.out.size)
    clear hs hall hpd c4 c9 HKP HST HLE hor k1 k2 k3
    obtain ⟨LL, hLL⟩ : ∃ L, lsT z h 6 = L := ⟨_, rfl⟩
    rw [hLL] at HPD HL6 HAL
    clear hLL
    go_upto_region 5 with (fail)
    refine wp_region_acts Nil [1, 5] (fun i vl => (vl.toArray, 22)) (fun i => undef) (dcI w.heap.size (LL) (LL ++ h.b)) (fun i v => ∃ A n c, v = .slice A n c) 8 (by kernel_rfl) (by kernel_rfl) (dcI_keeps _ _ _) ⟨HSW.out, trivial⟩ ?_
    simp only [List.take_succ_cons, List.take_zero, List.drop_succ_cons, List.drop_zero]
    refine tLex_quiets 1 rfl (by kernel_rfl) ?_
    simp only [List.take_succ_cons, List.take_zero, List.drop_succ_cons, List.drop_zero]
    apply Exists.intro
    refine ⟨?hqx, ?hvx, ?htx⟩
    case hqx =>
      intro V hV
      clear hV
      repeat (go_big_quiet_step (fail))
      exact wpQuiet_nil rfl
    case hvx => exact ⟨trivial, trivial⟩
    refine tLex_act 50 #[.pointer (some ⟨g5, 0, none⟩)] (fun u => ?hex) rfl rfl (.slice none 0 0) ⟨_, _, _, rfl⟩ ?hcx ?_
    case hex => simp [execOp, go_sem]
    case hcx =>
      intro D u hu hI hd
      exact dc_done HPD.out (by have := HL6.out; omega) hu hI
    rintro v5 ⟨A5, n5, c5, rfl⟩
    simp only [Act.put, List.setIfInBounds_toArray, List.set_cons_succ, List.set_cons_zero]
    refine tLex_quiets 2 rfl (by kernel_rfl) ?_
    simp only [List.take_succ_cons, List.take_zero, List.drop_succ_cons, List.drop_zero]
    apply Exists.intro
    refine ⟨?hqy, ?hvy, ?hty⟩
    case hqy =>
      intro V hV
      have e10 := fun d os => ((HP4.out.kept hV (fun hf => hf)).kept (kept_grown' V d os) (fun hf => hf)).cb
      clear hV
      repeat (go_big_quiet_step (fail))
      exact wpQuiet_nil rfl
    case hvy => exact ⟨trivial, trivial, trivial⟩
    refine tLex_make (#[.slice A5 n5 c5, .slice B m d], 22) rfl rfl rfl rfl (fun u => ?hmz) ?_
    case hmz => simp [execOp, mkVal, Instr.buildSlice, go_sem]
    intro qz hg hL
    simp only [Act.put, mkVal, List.setIfInBounds_toArray, List.set_cons_succ, List.set_cons_zero]
    refine tLex_act 56 #[.slice (some ⟨qz, 0, none⟩) 2 2] (fun u => ?hez) rfl rfl (.slice none 0 0) ⟨_, _, _, rfl⟩ ?hcz ?_
    case hez => simp [execOp, go_sem, mkVal]
    case hcz =>
      intro D u hu hI hdd
      obtain ⟨d1, d2⟩ := hdd qz _ ⟨_, List.mem_cons_of_mem _ (List.mem_cons_self ..), rfl⟩ (mput_same _ _ _)
      exact dc_cat HB4.out (by have := HL6.out; omega) hu hI d2
    rintro v6 ⟨A6, n6, c6, rfl⟩
    simp only [Act.put, List.setIfInBounds_toArray, List.set_cons_succ, List.set_cons_zero]
    refine tLex_quiets 2 rfl (by kernel_rfl) ?_
    simp only [List.take_succ_cons, List.take_zero, List.drop_succ_cons, List.drop_zero]
    apply Exists.intro
    refine ⟨?hqw, ?hvw, ?htw⟩
    case hqw =>
      intro V hV
      clear hV
      repeat (go_big_quiet_step (fail))
      exact wpQuiet_nil rfl
    case hvw => exact ⟨trivial, trivial, trivial⟩
    intro w6 hs
    have HO := Lib.hid hs.know.2
    have HKQ := Lib.hid hs.kept
    clear hs
    go_wp2
    go_ret2
    rw [HR.out]
    have ho6 := HO.out
    rw [HAL.out] at ho6
    obtain ⟨A7, c7, e7, -⟩ := Byt.of_own ho6
    exact ⟨_, rfl, ho6, HK4.out.then HKQ.out⟩
end Go.Proofs.YthjbabkmjmfmjaaDoor
