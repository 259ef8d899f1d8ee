/- tolllaw03.TagKnown: the walk. -/
import Derived.Test.YtnhkhglhodcffabTagPu
namespace Go.Proofs.Ytnhkhglhodcffab
open Go.RowKit Go.Sort
set_option linter.unusedVariables false

def bad (k : Nat) : Tg := match k with
  | 0 => ⟨0, 0, false, 0⟩
  | 1 => ⟨33025, 0, false, 0⟩
  | 2 => ⟨33024, 8, false, 0⟩
  | _ => ⟨34984, 0, false, 4096⟩
theorem bad_ok (k : Nat) : (bad k).ok := by
  unfold bad
  split <;> exact ⟨by decide, by decide, by decide⟩
theorem bad_may (k : Nat) : mayT (bad k) = false := by
  unfold bad
  split <;> decide +kernel
theorem bad_mayL (k : Nat) : mayL [bad k] = false := by simp [mayL, mayFrom, bad_may]
theorem bad_bytes (k : Nat) : bytesM [bad k] = [] := by simp [bytesM, bad_may]
theorem bad_bytes2 (k : Nat) (t : Tg) : bytesM [t, bad k] = [] := by simp [bytesM, bad_may]
theorem bad_push (k : Nat) : pushM [] (bad k) = ([], 1) := by unfold pushM; rw [if_pos (.inr (bad_may k))]

def t1 : Tg := ⟨33024, 0, false, 1⟩
def t2 : Tg := ⟨33024, 0, false, 2⟩
def t3 : Tg := ⟨33024, 0, false, 3⟩
def t4 : Tg := ⟨33024, 0, false, 4⟩

theorem kn_pop : popM [t1, t2, t3] = (⟨0, 0, false, 0⟩, [], 1) := by decide +kernel
theorem kn_push : pushM [t1, t2, t3] t4 = ([], 1) := by decide +kernel
theorem kn_may : mayL [t1, t2, t3] = false := by decide +kernel
theorem kn_r1 : readM [129] = ([], [129], 0) := by decide +kernel
theorem kn_r2 : readM [129, 0, 1] = ([], [], 4) := by decide +kernel
theorem kn_r3 : readM [129, 0, 255, 255, 136, 168, 0, 1] = ([⟨33024, 7, true, 4095⟩], [136, 168, 0, 1], 0) := by decide +kernel
theorem t123_ok : ∀ t ∈ [t1, t2, t3], t.ok := by
  intro t ht
  simp only [List.mem_cons, List.not_mem_nil, or_false] at ht
  rcases ht with rfl | rfl | rfl <;> exact ⟨by decide, by decide, by decide⟩
/-- What one round of the list of what is none does. -/
theorem idx_bad (k : Nat) (hk : k < 4) (w : World) : (Instr.index 51 (.agg #[.int .u16 0, .int .u8 0, .bool false, .int .u16 0, .int .u16 33025, .int .u8 0, .bool false, .int .u16 0, .int .u16 33024, .int .u8 8, .bool false, .int .u16 0, .int .u16 34984, .int .u8 0, .bool false, .int .u16 4096]) (.int .i64 (k : Int))).run Try.prog w = .ok (tgv (bad k)) w := by
  rcases (show k = 0 ∨ k = 1 ∨ k = 2 ∨ k = 3 by omega) with rfl | rfl | rfl | rfl <;> kernel_rfl

set_option maxHeartbeats 4000000 in
set_option maxRecDepth 100000 in
theorem known_yes (w : World) : Calls Try.prog 6 #[] w fun e w' => e = .returned (.bool true) ∧ Below w.heap.size w w' := by
  go_enter Try.func6, Try.ntmps6
  go_wp2
  go_loopw [25] (fun i wr => ∃ k : Nat, k ≤ 4 ∧ i = .int .i64 (k : Int) ∧ Kept Nil w wr) (fun i _ => 4 - (intOf i).toNat)
  case atStart => exact ⟨0, by omega, rfl, Kept.refl _ _⟩
  case round =>
    obtain ⟨k, hk, rfl, hkp⟩ := hrel
    by_cases hlt : k < 4
    · have hidx := fun u => idx_bad k hlt u
      have hok := bad_ok k
      have hmay := bad_may k
      have hb1 := bad_mayL k
      have hb2 := bad_bytes k
      have hb3 := bad_bytes2 k t1
      have hb4 := bad_push k
      generalize bad k = t at *
      unfold tgv at hidx
      have HK := Lib.hid hkp
      have HMay := Lib.hid hmay
      have HB1 := Lib.hid hb1
      have HB2 := Lib.hid hb2
      have HB3 := Lib.hid hb3
      have HB4 := Lib.hid hb4
      have hblo := Blo.new wr 38 #[.int .u16 (t.k : Int), .int .u8 (t.p : Int), .bool t.d, .int .u16 (t.n : Int)]
      have HB := Lib.hid hblo
      have push : ∀ u, Calls Try.prog _ _ u _ := fun u => push_yes none 0 0 [] t u (Tags.nil u) hok (by decide)
      rw [hb4] at push
      unfold tgv at push
      have Push := Lib.hid push
      clear hkp hmay hb1 hb2 hb3 hb4 hblo push
      go_wp2_with fail
      refine (Push.out _).mono ?_
      rintro e w1 ⟨v1, rfl, hm⟩
      obtain ⟨A1, cp1, rfl⟩ := own_form hm.1
      have hkk := ((Kept.refl Nil wr).alloc (.cells #[.int .u16 (t.k : Int), .int .u8 (t.p : Int), .bool t.d, .int .u16 (t.n : Int)] 38)).then hm.2
      have HX1 := Lib.hid (HB.out.kept hm.2 (fun hf => hf))
      have HK1 := Lib.hid (HK.out.then hkk)
      clear hm hkk
      have tm : ∀ u, Calls Try.prog _ _ u _ := fun u => tmay_yes t hok u
      rw [HMay.out] at tm
      unfold tgv at tm
      have pl : ∀ u, Calls Try.prog _ _ u _ := fun u => plain_yes 1 u
      unfold tgv at pl
      have Tm := Lib.hid tm
      have Pl := Lib.hid pl
      clear tm pl
      go_wp2
      refine wp_region_acts Nil [5, 9, 17] (fun i vl => ((vl.flatMap fun v => v.cells.toList).toArray, 38)) (fun i => if i = 1 then .bool false else if i = 14 then tgv t1 else .int .i64 0) (fun D s u => True) (fun i v => if i = 5 then v = .bool false else ∃ A c, v = .slice A 0 c) 25 (by kernel_rfl) (by kernel_rfl) ⟨fun _ _ _ _ _ _ => trivial, fun _ _ _ _ _ => trivial⟩ trivial ?_
      simp only [List.take_succ_cons, List.take_zero, List.drop_succ_cons, List.drop_zero]
      refine tLex_quiets 4 rfl (by kernel_rfl) ?_
      simp only [List.take_succ_cons, List.take_zero, List.drop_succ_cons, List.drop_zero]
      apply Exists.intro
      refine ⟨?hq, ?hv, ?ht⟩
      case hq =>
        intro V hV
        have hbv := HX1.out.kept hV (fun hf => hf)
        have c0 := hbv.gcell 0
        have c1 := hbv.gcell 1
        have c2 := hbv.gcell 2
        have c3 := hbv.gcell 3
        simp at c0 c1 c2 c3
        clear hV hbv
        repeat (go_big_quiet_step (with_reducible exact quietK (Tm.out _)))
        exact wpQuiet_nil rfl
      case hv => exact ⟨trivial, rfl, trivial, trivial, trivial⟩
      case ht =>
        refine tLex_make (#[.int .u16 (t.k : Int), .int .u8 (t.p : Int), .bool t.d, .int .u16 (t.n : Int)], 38) rfl rfl rfl rfl (fun u => ?hm) ?_
        case hm => simp [execOp, mkVal, Instr.buildSlice, go_sem]
        intro g hg hL
        simp only [Act.put, mkVal, List.setIfInBounds_toArray, List.set_cons_succ, List.set_cons_zero]
        refine tLex_act 15 #[.slice (some ⟨g, 0, none⟩) 1 1] (fun u => ?he) rfl rfl (.bool false) rfl ?hc ?_
        case he => simp [execOp, go_sem, mkVal]
        case hc =>
          intro D u hu hI hd
          obtain ⟨d1, d2⟩ := hd g _ ⟨_, List.mem_cons_of_mem _ (List.mem_cons_self ..), rfl⟩ (mput_same _ _ _)
          have htg : Tags u (some ⟨g, 0, none⟩) 1 1 [t] := ⟨rws_blo ([t].map tgc) (tgc_len _) (by simp) d2 rfl 1 rfl, by simpa using hok⟩
          refine (may_yes _ _ _ _ _ htg).mono ?_
          rintro e w' ⟨rfl, hk'⟩
          exact ⟨_, rfl, by rw [HB1.out]; rfl, hu.then hk', trivial, hk'.size, fun k _ hk2 => hk'.block k hk2 (fun hf => hf)⟩
        intro v hv
        obtain rfl : v = .bool false := hv
        simp only [Act.put, mkVal, List.setIfInBounds_toArray, List.set_cons_succ, List.set_cons_zero]
        refine tLex_quiets 3 rfl (by kernel_rfl) ?_
        simp only [List.take_succ_cons, List.take_zero, List.drop_succ_cons, List.drop_zero]
        apply Exists.intro
        refine ⟨?hq2, ?hv2, ?ht2⟩
        case hq2 =>
          intro V hV
          have hbv := HX1.out.kept hV (fun hf => hf)
          have c0 := hbv.gcell 0
          have c1 := hbv.gcell 1
          have c2 := hbv.gcell 2
          have c3 := hbv.gcell 3
          simp at c0 c1 c2 c3
          clear hV hbv
          repeat (go_big_quiet_step (fail))
          exact wpQuiet_nil rfl
        case hv2 => exact ⟨trivial, trivial, trivial, trivial⟩
        case ht2 =>
          refine tLex_act 21 #[.agg #[.int .u16 (t.k : Int), .int .u8 (t.p : Int), .bool t.d, .int .u16 (t.n : Int)]] (fun u => ?he2) rfl rfl (.slice none 0 0) ⟨_, _, rfl⟩ ?hc2 ?_
          case he2 => simp [execOp, go_sem]
          case hc2 =>
            intro D u hu hI hd
            refine (tbytes_yes t hok u).mono ?_
            rintro e w' ⟨v, rfl, hm⟩
            rw [HB2.out] at hm
            obtain ⟨A', c', rfl⟩ := own_form hm.1
            exact ⟨_, rfl, ⟨_, _, rfl⟩, hu.then hm.2, trivial, hm.2.size, fun k _ hk2 => hm.2.block k hk2 (fun hf => hf)⟩
          intro v hv
          obtain ⟨A2, cp2, rfl⟩ := hv
          simp only [Act.put, mkVal, List.setIfInBounds_toArray, List.set_cons_succ, List.set_cons_zero]
          refine tLex_quiets 6 rfl (by kernel_rfl) ?_
          simp only [List.take_succ_cons, List.take_zero, List.drop_succ_cons, List.drop_zero]
          apply Exists.intro
          refine ⟨?hq3, ?hv3, ?ht3⟩
          case hq3 =>
            intro V hV
            have hbv := HX1.out.kept hV (fun hf => hf)
            have c0 := hbv.gcell 0
            have c1 := hbv.gcell 1
            have c2 := hbv.gcell 2
            have c3 := hbv.gcell 3
            simp at c0 c1 c2 c3
            clear hV hbv
            repeat (go_big_quiet_step (with_reducible exact quietK (Pl.out _)))
            exact wpQuiet_nil rfl
          case hv3 => exact ⟨rfl, trivial, trivial, trivial, rfl, trivial, trivial⟩
          case ht3 =>
            refine tLex_make (#[.int .u16 33024, .int .u8 0, .bool false, .int .u16 1, .int .u16 (t.k : Int), .int .u8 (t.p : Int), .bool t.d, .int .u16 (t.n : Int)], 38) rfl rfl rfl rfl (fun u => ?hm4) ?_
            case hm4 => simp [execOp, mkVal, Instr.buildSlice, go_sem, tgv, t1]
            intro g2 hg2 hL2
            simp only [Act.put, mkVal, List.setIfInBounds_toArray, List.set_cons_succ, List.set_cons_zero]
            refine tLex_act 14 #[.slice (some ⟨g2, 0, none⟩) 2 2] (fun u => ?he4) rfl rfl (.slice none 0 0) ⟨_, _, rfl⟩ ?hc4 ?_
            case he4 => simp [execOp, go_sem, mkVal]
            case hc4 =>
              intro D u hu hI hd
              obtain ⟨d1, d2⟩ := hd g2 _ ⟨_, List.mem_cons_of_mem _ (List.mem_cons_self ..), rfl⟩ (mput_same _ _ _)
              have htg : Tags u (some ⟨g2, 0, none⟩) 2 2 [t1, t] := ⟨rws_blo ([t1, t].map tgc) (tgc_len _) (by simp) d2 rfl 2 rfl, by simpa using ⟨⟨by decide, by decide, by decide⟩, hok⟩⟩
              refine (bytes_yes _ _ _ _ _ htg (by decide)).mono ?_
              rintro e w' ⟨v, rfl, hm⟩
              rw [HB3.out] at hm
              obtain ⟨A', c', rfl⟩ := own_form hm.1
              exact ⟨_, rfl, ⟨_, _, rfl⟩, hu.then hm.2, trivial, hm.2.size, fun k _ hk2 => hm.2.block k hk2 (fun hf => hf)⟩
            intro v hv
            obtain ⟨A3, cp3, rfl⟩ := hv
            simp only [Act.put, mkVal, List.setIfInBounds_toArray, List.set_cons_succ, List.set_cons_zero]
            refine tLex_quiets 7 rfl (by kernel_rfl) ?_
            simp only [List.take_succ_cons, List.take_zero, List.drop_succ_cons, List.drop_zero]
            apply Exists.intro
            refine ⟨?hq5, ?hv5, ?ht5⟩
            case hq5 =>
              intro V hV
              have hbv := HX1.out.kept hV (fun hf => hf)
              have c0 := hbv.gcell 0
              have c1 := hbv.gcell 1
              have c2 := hbv.gcell 2
              have c3 := hbv.gcell 3
              simp at c0 c1 c2 c3
              clear hV hbv
              repeat (go_big_quiet_step (fail))
              exact wpQuiet_nil rfl
            case hv5 => exact ⟨rfl, trivial, trivial, trivial, trivial, trivial, trivial, trivial⟩
            case ht5 =>
              intro w2 hs
              have HK2 := Lib.hid (HK1.out.then hs.kept)
              clear hs
              go_wp2
              go_roundw
              case rel => exact ⟨k + 1, by omega, by go_num, HK2.out⟩
              case measure => simp [intOf]; omega
    · obtain rfl : k = 4 := by omega
      have HK := Lib.hid hkp
      have pl : ∀ (n : Nat) u, Calls Try.prog _ _ u _ := fun n u => plain_yes n u
      unfold tgv at pl
      have Pl := Lib.hid pl
      have hwk : ∀ u, Calls Try.prog _ _ u _ := fun u => wakes_yes u
      have HW := Lib.hid hwk
      clear hkp pl hwk
      go_wp2_with fail
      refine (Pl.out 1 _).mono ?_
      rintro e w1 ⟨rfl, hk1⟩
      have HK1 := Lib.hid (HK.out.then hk1)
      clear hk1
      go_wp2_with fail
      refine (Pl.out 2 _).mono ?_
      rintro e w2 ⟨rfl, hk2⟩
      have HK2 := Lib.hid (HK1.out.then hk2)
      clear hk2
      go_wp2_with fail
      refine (Pl.out 3 _).mono ?_
      rintro e w3 ⟨rfl, hk3⟩
      have HK3 := Lib.hid ((HK2.out.then hk3).alloc (.cells #[.int .u16 33024, .int .u8 0, .bool false, .int .u16 1, .int .u16 33024, .int .u8 0, .bool false, .int .u16 2, .int .u16 33024, .int .u8 0, .bool false, .int .u16 3] 38))
      have HT3 := Lib.hid (show Tags (w3.alloc (.cells #[.int .u16 33024, .int .u8 0, .bool false, .int .u16 1, .int .u16 33024, .int .u8 0, .bool false, .int .u16 2, .int .u16 33024, .int .u8 0, .bool false, .int .u16 3] 38)) (some ⟨w3.heap.size, 0, none⟩) 3 3 [t1, t2, t3] from ⟨Rws.lit (s := 4) w3 ([t1, t2, t3].map tgc) 38 (tgc_len _) (by simp) _ rfl 3 rfl w3.heap.size rfl, t123_ok⟩)
      clear hk3
      go_wp2_with fail
      refine (pop_yes _ 3 3 [t1, t2, t3] _ HT3.out (by decide)).mono ?_
      rintro e w4 ⟨v4, rfl, hm⟩
      rw [kn_pop] at hm ⊢
      obtain ⟨A4, cp4, rfl⟩ := own_form hm.1
      have hkk := hm.2.alloc (.cells #[.int .u16 0, .int .u8 0, .bool false, .int .u16 0] 38)
      have HT4 := Lib.hid (HT3.out.kept hkk (fun _ _ hf => hf))
      have HK4 := Lib.hid (HK3.out.then hkk)
      clear hm hkk
      unfold tgv
      go_wp2_with fail
      refine (Pl.out 4 _).mono ?_
      rintro e w5 ⟨rfl, hk5⟩
      have HT5 := Lib.hid (HT4.out.kept hk5 (fun _ _ hf => hf))
      have HK5 := Lib.hid (HK4.out.then hk5)
      clear hk5
      go_wp2_with fail
      refine (push_yes _ 3 3 [t1, t2, t3] t4 _ HT5.out ⟨by decide, by decide, by decide⟩ (by decide)).mono ?_
      rintro e w6 ⟨v6, rfl, hm⟩
      rw [kn_push] at hm ⊢
      obtain ⟨A6, cp6, rfl⟩ := own_form hm.1
      have HT6 := Lib.hid (HT5.out.kept hm.2 (fun _ _ hf => hf))
      have HK6 := Lib.hid (HK5.out.then hm.2)
      clear hm
      have HL7 := Lib.hid (byt_lit w6 [129] 5 #[.int .u8 129] rfl 1 rfl w6.heap.size rfl (by decide))
      go_wp2_with fail
      refine (read_yes _ 1 1 [129] _ HL7.out (by decide)).mono ?_
      rintro e w7 ⟨va7, vb7, rfl, hm⟩
      rw [kn_r1] at hm ⊢
      have hkk := ((Kept.refl Nil w6).alloc (.cells #[.int .u8 129] 5)).then hm.kept
      obtain ⟨A7, cp7, rfl⟩ := own_form hm.tags
      obtain ⟨B7, cq7, rfl, hy7, _⟩ := Byt.of_own hm.rest
      have HT7 := Lib.hid (HT6.out.kept hkk (fun _ _ hf => hf))
      have HK7 := Lib.hid (HK6.out.then hkk)
      have HY7 := Lib.hid hy7
      clear hm hy7
      clear hkk
      have HL8 := Lib.hid (byt_lit w7 [129, 0, 1] 5 #[.int .u8 129, .int .u8 0, .int .u8 1] rfl 3 rfl w7.heap.size rfl (by decide))
      go_wp2_with fail
      refine (read_yes _ 3 3 [129, 0, 1] _ HL8.out (by decide)).mono ?_
      rintro e w8 ⟨va8, vb8, rfl, hm⟩
      rw [kn_r2] at hm ⊢
      have hkk := ((Kept.refl Nil w7).alloc (.cells #[.int .u8 129, .int .u8 0, .int .u8 1] 5)).then hm.kept
      obtain ⟨A8, cp8, rfl⟩ := own_form hm.tags
      obtain ⟨B8, cq8, rfl⟩ := own_form hm.rest
      have HT8 := Lib.hid (HT7.out.kept hkk (fun _ _ hf => hf))
      have HK8 := Lib.hid (HK7.out.then hkk)
      have HY8 := Lib.hid (HY7.out.kept hkk (fun _ _ hf => hf))
      clear hm
      clear hkk
      have HL9 := Lib.hid (byt_lit w8 [129, 0, 255, 255, 136, 168, 0, 1] 5 #[.int .u8 129, .int .u8 0, .int .u8 255, .int .u8 255, .int .u8 136, .int .u8 168, .int .u8 0, .int .u8 1] rfl 8 rfl w8.heap.size rfl (by decide))
      go_wp2_with fail
      refine (read_yes _ 8 8 [129, 0, 255, 255, 136, 168, 0, 1] _ HL9.out (by decide)).mono ?_
      rintro e w9 ⟨va9, vb9, rfl, hm⟩
      rw [kn_r3] at hm ⊢
      have hkk := ((Kept.refl Nil w8).alloc (.cells #[.int .u8 129, .int .u8 0, .int .u8 255, .int .u8 255, .int .u8 136, .int .u8 168, .int .u8 0, .int .u8 1] 5)).then hm.kept
      obtain ⟨A9, cp9, rfl, ht9, _⟩ := Tags.of_own hm.tags hm.ok
      obtain ⟨B9, cq9, rfl⟩ := own_form hm.rest
      have HT9 := Lib.hid (HT8.out.kept hkk (fun _ _ hf => hf))
      have HK9 := Lib.hid (HK8.out.then hkk)
      have HY9 := Lib.hid (HY8.out.kept hkk (fun _ _ hf => hf))
      have HG9 := Lib.hid ht9
      clear hm ht9
      clear hkk
      go_wp2_with fail
      refine (may_yes _ _ _ _ _ HT9.out).mono ?_
      rintro e w10 ⟨rfl, hk10⟩
      rw [kn_may]
      have HK10 := Lib.hid (HK9.out.then hk10)
      have HY10 := Lib.hid ((HY9.out.kept hk10 (fun _ _ hf => hf)).kept ((Kept.refl Nil w10).alloc (.cells #[.int .u8 129] 5)) (fun _ _ hf => hf))
      have HL10 := Lib.hid (byt_lit w10 [129] 5 #[.int .u8 129] rfl 1 rfl w10.heap.size rfl (by decide))
      have HG10 := Lib.hid ((HG9.out.kept hk10 (fun _ _ hf => hf)).kept ((Kept.refl Nil w10).alloc (.cells #[.int .u8 129] 5)) (fun _ _ hf => hf))
      clear hk10
      go_wp2_with fail
      refine (equal _ _ _ _ _ _ _ _ _ HY10.out HL10.out).mono ?_
      rintro e w11 ⟨rfl, rfl⟩
      obtain ⟨b1, o1, rfl, p0, p1, p2, p3⟩ := HG10.out.at (i := 0) (by decide)
      simp at p0 p1 p2 p3
      have eqs := fun w => eq_tag ⟨33024, 7, true, 4095⟩ ⟨33024, 7, true, 4095⟩ w
      have eqs2 := fun w => eq_tag ⟨33024, 0, false, 9⟩ ⟨33024, 0, false, 9⟩ w
      rw [decide_eq_true rfl] at eqs eqs2
      unfold tgv at eqs eqs2
      go_wp2_with fail
      refine (Pl.out 9 _).mono ?_
      rintro e w12 ⟨rfl, hk12⟩
      have HK12 := Lib.hid ((HK10.out.alloc _).then hk12)
      clear hk12
      go_wp2_with fail
      refine (HW.out _).mono ?_
      rintro e w13 ⟨rfl, hk13⟩
      have HK13 := Lib.hid (HK12.out.then hk13)
      clear hk13
      go_wp2
      go_ret
      exact ⟨rfl, HK13.out.below (Nat.le_refl _) (fun _ hf => hf.elim)⟩
end Go.Proofs.Ytnhkhglhodcffab
