/- Package trans: contract of a UDP head's Bytes. -/
import Derived.Test.YthjbabkmjmfmjaaDoorMg6
import Derived.Test.YthjbabkmjmfmjaaDoorMg20
import Derived.Test.YthjbabkmjmfmjaaDoorMg21
import Derived.Deep.DeepCutAuto
namespace Go.Proofs.YthjbabkmjmfmjaaDoor
open Go.RowKit Go.Sort
set_option linter.unusedVariables false

def lsU (h : Ud) : Nat → List UInt8
  | 0 => []
  | 1 => []
  | _ => beAll 2 [h.f, h.t, h.n, h.c]
theorem lsU_len (h : Ud) (i : Nat) : (lsU h i).length ≤ 8 := by
  unfold lsU
  split <;> simp [beAll_len]
theorem lsU_all (h : Ud) : lsU h 2 ++ h.b = udB h := by
  show beAll 2 [h.f, h.t, h.n, h.c] ++ h.b = _
  unfold udB
  simp only [beAll, List.map_cons, List.map_nil, List.flatten_cons, List.flatten_nil, List.append_nil, List.append_assoc]
set_option maxRecDepth 100000 in
set_option maxHeartbeats 16000000 in
theorem ubytes_yes (h : Ud) (hok : h.ok) (B : Option Addr) (m d : Nat) (w : World) (hb : Byt w B m d h.b) (hm : m ≤ 1000000000) :
    Calls Tryd.prog 28 #[.agg (ucs h B m d).toArray] w fun e w' => ∃ v, e = .returned (.tuple #[v, .int .i64 (tellU h).2]) ∧ Made w w' v (tellU h).1 := by
  have hP := UB.new w 38 h B m d
  have hk := (Kept.refl Nil w).alloc (.cells (ucs h B m d).toArray 38)
  have hbl := hb.1
  have HBL := Lib.hid hbl
  have HB := Lib.hid hb
  have HOK := Lib.hid hok
  have HTE := Lib.hid (show tellU h = if h.n ≠ 8 + m then ([], 1) else (udB h, 0) by unfold tellU; rw [hbl])
  have hnb := hok.n
  clear hb hbl hok
  go_enter Tryd.func28, Tryd.ntmps28
  go_upto_region 1 with (fail)
  refine wp_nameE (fun W => UB W w.heap.size 38 h B m d ∧ Kept Nil w W) ⟨hP, hk⟩ ?_
  clear hP hk
  rintro W ⟨hP, hk⟩
  have c2 := hP.cn
  have c4 := hP.cb
  have HP := Lib.hid hP
  have HK := Lib.hid hk
  clear hP hk
  by_cases h1 : h.n = 8 + m
  · have HR := Lib.hid (show tellU h = (udB h, 0) by rw [HTE.out, if_neg (fun e => e h1)])
    have k1 : ((h.n : Int) != 8 + (m : Int)) = false := by simp; omega
    clear h1 HTE
    go_upto_region 3 with (fail)
    have HKP := Lib.hid (padJ_keeps W.heap.size (lsU h))
    have HST := Lib.hid (padJ_nil W (lsU h))
    have HLE := Lib.hid (lsU_len h)
    refine wp_region_acts Nil [0, 10] (fun i vl => (vl.toArray, 27)) (fun i => undef) (padJ W.heap.size (lsU h)) padP 11 (by kernel_rfl) (by kernel_rfl) HKP.out HST.out ?_
    simp only [List.take_succ_cons, List.take_zero, List.drop_succ_cons, List.drop_zero]
    refine tLex_act 46 #[] (fun u => ?hea) rfl rfl _ (padP_0 _) ?hca ?_
    case hea => simp [execOp, go_sem]
    case hca =>
      intro D u hu hI hdd
      exact padJ_lay hu hI rfl _
    rintro r0 ⟨g, rfl⟩
    simp only [Act.put, List.setIfInBounds_toArray, List.set_cons_succ, List.set_cons_zero]
    refine tLex_quiets 8 rfl (by kernel_rfl) ?_
    simp only [List.take_succ_cons, List.take_zero, List.drop_succ_cons, List.drop_zero]
    apply Exists.intro
    refine ⟨?hq0, ?hv0, ?ht0⟩
    case hq0 =>
      intro V hV
      have ef := fun d os => ((HP.out.kept hV (fun hf => hf)).kept (kept_grown' V d os) (fun hf => hf)).cf
      have et := fun d os => ((HP.out.kept hV (fun hf => hf)).kept (kept_grown' V d os) (fun hf => hf)).ct
      have en := fun d os => ((HP.out.kept hV (fun hf => hf)).kept (kept_grown' V d os) (fun hf => hf)).cn
      have ec := fun d os => ((HP.out.kept hV (fun hf => hf)).kept (kept_grown' V d os) (fun hf => hf)).cc
      clear hV
      repeat (go_big_quiet_step (fail))
      exact wpQuiet_nil rfl
    case hv0 => exact ⟨trivial, trivial, trivial, trivial, trivial, trivial, trivial, trivial, trivial⟩
    refine tLex_make (#[.int .u16 (h.f : Int), .int .u16 (h.t : Int), .int .u16 (h.n : Int), .int .u16 (h.c : Int)], 27) rfl rfl rfl rfl (fun u => ?hm0) ?_
    case hm0 => simp [execOp, mkVal, Instr.buildSlice, go_sem]
    intro q0 hg hL
    simp only [Act.put, mkVal, List.setIfInBounds_toArray, List.set_cons_succ, List.set_cons_zero]
    refine tLex_act 54 #[.pointer (some ⟨g, 0, none⟩), .slice (some ⟨q0, 0, none⟩) 4 4] (fun u => ?he0) rfl rfl _ (padP_0 _) ?hc0 ?_
    case he0 => simp [execOp, go_sem, mkVal]
    case hc0 =>
      intro D u hu hI hdd
      obtain ⟨d1, d2⟩ := hdd _ _ ⟨_, List.mem_cons_of_mem _ (List.mem_cons_of_mem _ (List.mem_cons_self ..)), rfl⟩ (mput_same _ _ _)
      exact padJ_two (n := 4) [h.f, h.t, h.n, h.c] hu hI (by simp) d1 d2 rfl rfl rfl (by have := HLE.out 1; show ((lsU h) 1).length + _ ≤ _; simp; omega) (by intro x hx; simp only [List.mem_cons, List.not_mem_nil, or_false] at hx; rcases hx with rfl | rfl | rfl | rfl; exact HOK.out.f; exact HOK.out.t; exact HOK.out.n; exact HOK.out.c) _
    rintro rg1 ⟨g1, rfl⟩
    simp only [Act.put, List.setIfInBounds_toArray, List.set_cons_succ, List.set_cons_zero]
    intro w4 hs
    obtain ⟨v, hall, hpd, -⟩ := padJ_at hs.know (g := g1) (by simp)
    have hpd : Padd w4 W.heap.size g1 v ((lsU h) 2) := hpd
    have HPD := Lib.hid hpd
    have HK4 := Lib.hid (HK.out.then hs.kept)
    have HP4 := Lib.hid (HP.out.kept hs.kept (fun hf => hf))
    have HB4 := Lib.hid (HB.out.kept HK4.out (fun _ _ hf => hf))
    have HL6 := Lib.hid (show (lsU h 2).length ≤ 8 from HLE.out 2)
    have HAL := Lib.hid (lsU_all h)
    have HSW := Lib.hid (show w.heap.size ≤ w4.heap.size from HK4.out.size)
    clear hs hall hpd c2 c4 HKP HST HLE k1
    obtain ⟨LL, hLL⟩ : ∃ L, lsU h 2 = L := ⟨_, rfl⟩
    rw [hLL] at HPD HL6 HAL
    clear hLL
    go_upto_region 4 with (fail)
    refine wp_region_acts Nil [1, 5] (fun i vl => (vl.toArray, 22)) (fun i => undef) (dcI w.heap.size (LL) (LL ++ h.b)) (fun i v => ∃ A n c, v = .slice A n c) 8 (by kernel_rfl) (by kernel_rfl) (dcI_keeps _ _ _) ⟨HSW.out, trivial⟩ ?_
    simp only [List.take_succ_cons, List.take_zero, List.drop_succ_cons, List.drop_zero]
    refine tLex_quiets 1 rfl (by kernel_rfl) ?_
    simp only [List.take_succ_cons, List.take_zero, List.drop_succ_cons, List.drop_zero]
    apply Exists.intro
    refine ⟨?hqx, ?hvx, ?htx⟩
    case hqx =>
      intro V hV
      clear hV
      repeat (go_big_quiet_step (fail))
      exact wpQuiet_nil rfl
    case hvx => exact ⟨trivial, trivial⟩
    refine tLex_act 50 #[.pointer (some ⟨g1, 0, none⟩)] (fun u => ?hex) rfl rfl (.slice none 0 0) ⟨_, _, _, rfl⟩ ?hcx ?_
    case hex => simp [execOp, go_sem]
    case hcx =>
      intro D u hu hI hd
      exact dc_done HPD.out (by have := HL6.out; omega) hu hI
    rintro v5 ⟨A5, n5, c5, rfl⟩
    simp only [Act.put, List.setIfInBounds_toArray, List.set_cons_succ, List.set_cons_zero]
    refine tLex_quiets 2 rfl (by kernel_rfl) ?_
    simp only [List.take_succ_cons, List.take_zero, List.drop_succ_cons, List.drop_zero]
    apply Exists.intro
    refine ⟨?hqy, ?hvy, ?hty⟩
    case hqy =>
      intro V hV
      have e10 := fun d os => ((HP4.out.kept hV (fun hf => hf)).kept (kept_grown' V d os) (fun hf => hf)).cb
      clear hV
      repeat (go_big_quiet_step (fail))
      exact wpQuiet_nil rfl
    case hvy => exact ⟨trivial, trivial, trivial⟩
    refine tLex_make (#[.slice A5 n5 c5, .slice B m d], 22) rfl rfl rfl rfl (fun u => ?hmz) ?_
    case hmz => simp [execOp, mkVal, Instr.buildSlice, go_sem]
    intro qz hg hL
    simp only [Act.put, mkVal, List.setIfInBounds_toArray, List.set_cons_succ, List.set_cons_zero]
    refine tLex_act 56 #[.slice (some ⟨qz, 0, none⟩) 2 2] (fun u => ?hez) rfl rfl (.slice none 0 0) ⟨_, _, _, rfl⟩ ?hcz ?_
    case hez => simp [execOp, go_sem, mkVal]
    case hcz =>
      intro D u hu hI hdd
      obtain ⟨d1, d2⟩ := hdd qz _ ⟨_, List.mem_cons_of_mem _ (List.mem_cons_self ..), rfl⟩ (mput_same _ _ _)
      exact dc_cat HB4.out (by have := HL6.out; omega) hu hI d2
    rintro v6 ⟨A6, n6, c6, rfl⟩
    simp only [Act.put, List.setIfInBounds_toArray, List.set_cons_succ, List.set_cons_zero]
    refine tLex_quiets 2 rfl (by kernel_rfl) ?_
    simp only [List.take_succ_cons, List.take_zero, List.drop_succ_cons, List.drop_zero]
    apply Exists.intro
    refine ⟨?hqw, ?hvw, ?htw⟩
    case hqw =>
      intro V hV
      clear hV
      repeat (go_big_quiet_step (fail))
      exact wpQuiet_nil rfl
    case hvw => exact ⟨trivial, trivial, trivial⟩
    intro w6 hs
    have HO := Lib.hid hs.know.2
    have HKQ := Lib.hid hs.kept
    clear hs
    go_wp2
    go_ret2
    rw [HR.out]
    have ho6 := HO.out
    rw [HAL.out] at ho6
    obtain ⟨A7, c7, e7, -⟩ := Byt.of_own ho6
    exact ⟨_, rfl, ho6, HK4.out.then HKQ.out⟩
  · have HR := Lib.hid (show tellU h = ([], 1) by rw [HTE.out, if_pos h1])
    have k1 : ((h.n : Int) != 8 + (m : Int)) = true := by simp; omega
    clear h1
    go_wp2
    go_ret2
    exact ⟨.slice none 0 0, by rw [HR.out]; rfl, by rw [HR.out]; exact World.ownsRow_nil _ _ _ _, HK.out⟩
end Go.Proofs.YthjbabkmjmfmjaaDoor
