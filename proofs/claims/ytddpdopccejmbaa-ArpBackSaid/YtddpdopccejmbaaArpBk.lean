/- tolllaw05.ArpBack: the walk. -/
import Derived.Test.YtddpdopccejmbaaArpM
import Derived.Test.YtddpdopccejmbaaArpG
import Derived.Test.YtddpdopccejmbaaEthU
namespace Go.Proofs.Ytddpdopccejmbaa
open Go.RowKit Go.Sort
set_option linter.unusedVariables false

theorem PB.set_o {w : World} {g : Nat} {T : TypeId} {p : Pk} (o : Nat) (z : Int) (hz : z = (o : Int)) (h : Blo w g T ((pcs p).take 0 ++ [Value.int .u16 z] ++ (pcs p).drop (0 + [Value.int .u16 z].length)).toArray) : PB w g T { p with o := o } := by
  subst hz
  exact h
theorem infU16 : (Try.prog.info? 45).map (·.size) = some 1 := by kernel_rfl
/-- What the answers are, in each world. -/
def bkG (l : List UInt8) (i : Nat) (v : Value) (u : World) : Prop := if i = 0 then ∃ A n c, v = .slice A n c ∧ Byt u A n c l else True
theorem bkG_kept (l : List UInt8) (i : Nat) (v : Value) (u u' : World) (h : bkG l i v u) (k : Kept Nil u u') : bkG l i v u' := by
  unfold bkG at *
  split
  · rename_i h2
    rw [if_pos h2] at h
    obtain ⟨A, n, c, e, hy⟩ := h
    exact ⟨A, n, c, e, hy.kept k (fun _ _ hf => hf)⟩
  · trivial
def bkP (i : Nat) (v : Value) : Prop := if i = 4 then ∃ A c, v = .slice A 28 c else v = .bool true
set_option maxRecDepth 100000 in
set_option maxHeartbeats 8000000 in
theorem aback_yes (p : Pk) (A : Option Addr) (n c : Nat) (bl : List UInt8) (w : World) (hp : p.ok) (hb : Byt w A n c bl) :
    Calls Try.prog 6 #[pkv p, .slice A n c] w fun e w' => e = .returned (.bool true) ∧ Below w.heap.size w w' := by
  have hnc := hb.2.1
  have hcc := hb.2.2.1
  obtain ⟨m, hmin, hmn, hm100⟩ : ∃ m : Nat, (if (100 : Int) < (n : Int) then (100 : Int) else (n : Int)) = (m : Int) ∧ m ≤ n ∧ m ≤ 100 := ⟨min n 100, by split <;> omega, by omega, by omega⟩
  have hsl := run_cut_hi (P := Try.prog) Try.underlying26 inf5.1 A n c m (m : Int) rfl (by omega)
  have hpre := hb.pre hmn
  generalize bl.take m = b at hpre
  have hk := (Kept.refl Nil w).alloc (.cells (pcs p).toArray 49)
  have HB0 := Lib.hid (hpre.kept hk (fun _ _ hf => hf))
  have HP0 := Lib.hid (PB.new w 49 p)
  have HK0 := Lib.hid hk
  have HOK := Lib.hid hp
  have HBLT := Lib.hid hb.lt
  have hHB : ∀ i, Lies A m i → i < w.heap.size := fun i hi => hb.lt i ⟨by have := hi.1; omega, hi.2⟩
  have HBL := Lib.hid hHB
  clear hb hpre hk hp HBLT hHB hnc
  go_enter Try.func6, Try.ntmps6
  go_upto_region 1 with (fail)
  refine wp_nameE (fun W => PB W w.heap.size 49 p ∧ Byt W A m c b ∧ Kept Nil w W) ⟨HP0.out, HB0.out, HK0.out⟩ ?_
  clear HP0 HB0 HK0
  rintro W ⟨hP, hB, hk⟩
  have HP := Lib.hid hP
  have HB := Lib.hid hB
  have HK := Lib.hid hk
  have c0 := hP.co
  have hw16 : IntKind.wrap .u16 (1 + (p.o : Int) % 2) = 1 + (p.o : Int) % 2 := by rw [IntKind.wrap_u16]; omega
  clear hP hB hk
  go_upto_region 2 with (first | (refine wpList_st rfl _ _ _ rfl w.heap.size 0 rfl [.int .u16 (1 + (p.o : Int) % 2)] _ rfl rfl infU16 49 _ HP.out (by rw [pcs_len HOK.out, List.length_singleton]; omega) (by intro u hu; simp at hu; subst hu; rfl) ?_; intro w1 hb1 hk1 hz1) | fail)
  obtain ⟨q, hq⟩ : ∃ q : Pk, q = { p with o := 1 + p.o % 2 } := ⟨_, rfl⟩
  have hp1 := PB.set_o (1 + p.o % 2) _ (by omega) hb1
  rw [← hq] at hp1
  have hqo : q.ok := by rw [hq]; exact ⟨by show 1 + p.o % 2 < 65536; omega, HOK.out.f, HOK.out.x, HOK.out.t, HOK.out.y⟩
  have hqm : mayP q = true := by rw [hq]; exact decide_eq_true (by show 1 + p.o % 2 = 1 ∨ 1 + p.o % 2 = 2; omega)
  have HP1 := Lib.hid hp1
  have HB1 := Lib.hid (HB.out.kept hk1 (fun i hi hf => by have := HBL.out i hi; cases hf; omega))
  have HK1 := Lib.hid (HK.out.fresh hk1 (fun i hi => by cases hi; exact Nat.le_refl _))
  have HQO := Lib.hid hqo
  have HQM := Lib.hid hqm
  clear hp1 hqo hqm hq hb1 hk1 hz1 c0 hw16 HP HB HK HOK
  simp only [Act.put]
  go_wp2_with (first | (refine wpList_ld rfl _ _ rfl w.heap.size 0 rfl (pcs q) HP1.out.all _ Try.underlying49 rfl (infP q HQO.out) ?_) | fail)
  refine (pbytes_yes q HQO.out _).mono ?_
  rintro e w2 ⟨v2, rfl, hm⟩
  rw [show bytesP q = formP q by unfold bytesP; rw [HQM.out]; rfl] at hm
  have hfl := formP_len HQO.out
  obtain ⟨A5, c5, rfl, hy5, _⟩ := byt_own hm
  rw [hfl] at hy5 ⊢
  have HFL := Lib.hid hfl
  have HGF := Lib.hid (get_form q HQO.out HQM.out)
  generalize formP q = F at *
  have HY2 := Lib.hid hy5
  have HP2 := Lib.hid (HP1.out.kept hm.2 (fun hf => hf))
  have HB2 := Lib.hid (HB1.out.kept hm.2 (fun _ _ hf => hf))
  have HK2 := Lib.hid (HK1.out.then hm.2)
  clear hm hy5 hfl HP1 HB1 HK1 hsl
  go_wp2_with (fail)
  refine (bclone A5 28 c5 F _ HY2.out (by decide)).mono ?_
  rintro e w3 ⟨v3, rfl, hm⟩
  have hown3 := hm.1
  rw [HFL.out] at hown3
  have HO3 := Lib.hid hown3
  have HY3 := Lib.hid (HY2.out.kept hm.2 (fun _ _ hf => hf))
  have HP3 := Lib.hid (HP2.out.kept hm.2 (fun hf => hf))
  have HB3 := Lib.hid (HB2.out.kept hm.2 (fun _ _ hf => hf))
  have HK3 := Lib.hid (HK2.out.then hm.2)
  have HS3 := Lib.hid hm.2.size
  clear hm hown3
  obtain ⟨i0, hi, hz0, hz1, hz2⟩ := info_parts Try.infb
  go_wp2_with (first
    | (at_builtin; refine wpList_any rfl _ _ 26 rfl w2.heap.size 5 i0 (.int .u8 0) Try.underlying26 hi hz0 hz1 hz2 rfl v3 28 (bys F) rfl HO3.out A m c b rfl HB3.out (by omega) HS3.out ?_; intro v4 w4 hown4 hgr4 hob4; clear hob4; rw [← bys_app] at hown4; have HO4 := Lib.hid hown4; have HG4 := Lib.hid hgr4; obtain ⟨A4, c4, rfl⟩ := own_form hown4; clear hown4 hgr4)
    | fail)
  have hlo : ∀ k, v3.ownBlock = some k → w2.heap.size ≤ k := fun k hk => (HO3.out.lt k hk).1
  have hkg : Kept (fun k => v3.ownBlock = some k) w3 w4 := (Kept.refl _ w3).grown HG4.out (fun k hk _ => hk)
  obtain ⟨A4', c4', e4, hy4, _⟩ := Byt.of_own HO4.out
  cases e4
  have HY4 := Lib.hid hy4
  have HZ4 := Lib.hid (HY3.out.kept hkg (fun i hi hf => by have := HY2.out.lt i hi; have := hlo i hf; omega))
  have HP4 := Lib.hid (HP3.out.kept hkg (fun hf => by have := HP2.out.lt; have := hlo _ hf; omega))
  have HB4 := Lib.hid (HB3.out.kept hkg (fun i hi hf => by have := HB2.out.lt i hi; have := hlo i hf; omega))
  have HK4 := Lib.hid (HK3.out.fresh hkg (fun k hk => Nat.le_trans HK2.out.size (hlo k hk)))
  clear hy4 hlo hkg HO3 HG4 HO4 HY2 HY3 HP2 HP3 HB2 HB3 HK2 HK3 HS3
  refine (pget_yes A4 (28 + m) c4 (F ++ b) _ HY4.out (by omega)).mono ?_
  rintro e w5 ⟨rfl, hk⟩
  rw [HGF.out b]
  have HZ5 := Lib.hid (HZ4.out.kept hk (fun _ _ hf => hf))
  have HP5 := Lib.hid (HP4.out.kept hk (fun hf => hf))
  have HB5 := Lib.hid (HB4.out.kept hk (fun _ _ hf => hf))
  have HK5 := Lib.hid (HK4.out.then hk)
  have HN5 := Lib.hid (PB.new w5 49 Pk.zero)
  clear hk HY4 HZ4 HP4 HB4 HK4 HGF
  simp only
  go_upto_region 5 with (first | (refine wpList_st rfl _ (.tmp 6) _ rfl _ 0 rfl (pcs q) _ rfl rfl (infP _ HQO.out) 49 _ HN5.out (by rw [pcs_len Pk.zero_ok, pcs_len HQO.out]; omega) (pcs_one _) ?_; intro w6 hb6 hk6 hz6) | fail)
  have hk56 := ((Kept.refl Nil w5).alloc (.cells (pcs Pk.zero).toArray 49)).fresh hk6 (fun i hi => by cases hi; exact Nat.le_refl _)
  have HR6 := Lib.hid (PB.of_all (p' := q) Pk.zero_ok HQO.out hb6)
  have HZ6 := Lib.hid (HZ5.out.kept hk56 (fun _ _ hf => hf))
  have HP6 := Lib.hid (HP5.out.kept hk56 (fun hf => hf))
  have HB6 := Lib.hid (HB5.out.kept hk56 (fun _ _ hf => hf))
  have HK6 := Lib.hid (HK5.out.then hk56)
  obtain ⟨g6, hg6⟩ : ∃ g, w5.heap.size = g := ⟨_, rfl⟩
  rw [hg6] at HR6 ⊢
  clear hb6 hk6 hz6 hk56 hg6 HZ5 HP5 HB5 HK5 HN5
  have heq : ∀ u, (Op.equalIn 10000 49 (.agg (pcs q).toArray) (.agg (pcs q).toArray)).run Try.prog u = .ok true u := fun u => by
    have := eq_pk q q HQO.out HQO.out u
    rw [decide_eq_true rfl] at this
    exact this
  go_wp2_with (first
    | (refine wpList_ld rfl _ _ rfl g6 0 rfl (pcs q) HR6.out.all _ Try.underlying49 rfl (infP q HQO.out) ?_)
    | (refine wpList_ld rfl _ _ rfl w.heap.size 0 rfl (pcs q) HP6.out.all _ Try.underlying49 rfl (infP q HQO.out) ?_)
    | fail)
  clear heq HR6 HP6 HQM
  go_loopw [47] (fun i wr => ∃ k : Nat, k ≤ 28 ∧ i = .int .i64 (k : Int) ∧ Hid (Byt wr A5 28 c5 F) ∧ Hid (Byt wr A m c b) ∧ Hid (Kept Nil w wr)) (fun i _ => 28 - (intOf i).toNat)
  case atStart => exact ⟨0, by omega, rfl, HZ6, HB6, HK6⟩
  case round =>
    obtain ⟨k, hk28, rfl, HZ, HB, HK⟩ := hrel
    clear HZ6 HB6 HK6
    by_cases hlt : k < 28
    · have hc5 : 28 ≤ c5 := HZ.out.2.1
      have hsk := run_cut_hi (P := Try.prog) Try.underlying26 inf5.1 A5 28 c5 k (k : Int) rfl (by omega)
      have HPK := Lib.hid (HZ.out.pre (hi := k) (by omega))
      have HGS := Lib.hid (get_short (F.take k) (by rw [List.length_take, HFL.out]; omega))
      go_wp2_with (fail)
      refine (pget_yes A5 k c5 (F.take k) _ HPK.out (by omega)).mono ?_
      rintro e w7 ⟨rfl, hk⟩
      rw [HGS.out]
      have HZ7 := Lib.hid (HZ.out.kept hk (fun _ _ hf => hf))
      have HB7 := Lib.hid (HB.out.kept hk (fun _ _ hf => hf))
      have HK7 := Lib.hid (HK.out.then hk)
      have HN7 := Lib.hid (PB.new w7 49 Pk.zero)
      clear hk HPK HGS hsk hc5 HZ HB HK
      simp only
      go_wp2_with (first | (refine wpList_st rfl _ (.tmp 9) _ rfl _ 0 rfl (pcs Pk.zero) _ rfl rfl (infP _ Pk.zero_ok) 49 _ HN7.out (by rw [pcs_len Pk.zero_ok]; omega) (pcs_one _) ?_; intro w8 hb8 hk8 hz8) | fail)
      have hk78 := ((Kept.refl Nil w7).alloc (.cells (pcs Pk.zero).toArray 49)).fresh hk8 (fun i hi => by cases hi; exact Nat.le_refl _)
      have HZ8 := Lib.hid (HZ7.out.kept hk78 (fun _ _ hf => hf))
      have HB8 := Lib.hid (HB7.out.kept hk78 (fun _ _ hf => hf))
      have HK8 := Lib.hid (HK7.out.then hk78)
      clear hb8 hk8 hz8 hk78 HZ7 HB7 HK7 HN7
      go_roundw
      case rel => exact ⟨k + 1, by omega, by go_num, HZ8, HB8, HK8⟩
      case measure => simp [intOf]; omega
    · obtain rfl : k = 28 := by omega
      go_wp2_with (fail)
      refine (pget_yes A m c b _ HB.out (by omega)).mono ?_
      rintro e w9 ⟨rfl, hk⟩
      have hpo := getP_ok b
      have hfg := form_get b
      have hgn := get_none b
      generalize getP b = R at *
      obtain ⟨x, E⟩ := R
      simp only at hpo hfg hgn ⊢
      have HXOK := Lib.hid hpo
      have HFG := Lib.hid hfg
      have HGN := Lib.hid hgn
      have HB9 := Lib.hid (HB.out.kept hk (fun _ _ hf => hf))
      have HK9 := Lib.hid (HK.out.then hk)
      have HN9 := Lib.hid (PB.new w9 49 Pk.zero)
      have HBLN := Lib.hid HB.out.1
      clear hk hpo hfg hgn HZ HB HK
      go_upto_region 15 with (first | (refine wpList_st rfl _ (.tmp 11) _ rfl _ 0 rfl (pcs x) _ rfl rfl (infP _ HXOK.out) 49 _ HN9.out (by rw [pcs_len Pk.zero_ok, pcs_len HXOK.out]; omega) (pcs_one _) ?_; intro w10 hb10 hk10 hz10) | fail)
      have hk910 := ((Kept.refl Nil w9).alloc (.cells (pcs Pk.zero).toArray 49)).fresh hk10 (fun i hi => by cases hi; exact Nat.le_refl _)
      have HX := Lib.hid (PB.of_all (p' := x) Pk.zero_ok HXOK.out hb10)
      have HB10 := Lib.hid (HB9.out.kept hk910 (fun _ _ hf => hf))
      have HK10 := Lib.hid (HK9.out.then hk910)
      obtain ⟨g11, hg11⟩ : ∃ g, w9.heap.size = g := ⟨_, rfl⟩
      rw [hg11] at HX ⊢
      clear hb10 hk10 hz10 hk910 hg11 HB9 HK9 HN9
      by_cases hE : E = 0
      · obtain ⟨h28, hmx, hfx⟩ := HFG.out hE
        rw [HBLN.out] at h28
        subst hE
        have hs28 := run_cut_hi (P := Try.prog) Try.underlying26 inf5.1 A m c 28 (28 : Int) rfl (by have := HB10.out.2.1; omega)
        have hbx : bytesP x = b.take 28 := by unfold bytesP; rw [hmx]; exact hfx
        have HY28 := Lib.hid (HB10.out.pre (hi := 28) h28)
        have HBX := Lib.hid hbx
        have HL28 := Lib.hid (show (b.take 28).length = 28 by rw [List.length_take, HBLN.out]; omega)
        have hmy : ∀ u, Calls Try.prog 26 #[.agg (pcs x).toArray] u fun e w' => e = .returned (.bool true) ∧ Kept Nil u w' := fun u => by
          have := pmay_yes x HXOK.out u
          rw [hmx] at this
          exact this
        have h28c : 28 ≤ c := by have := HB10.out.2.1; omega
        clear hbx hfx hmx HFG HGN
        go_wp2_with (fail)
        refine wp_region_acts Nil [4, 7] (fun i vl => (#[], 0)) (fun i => .bool true) (actI (bkG (b.take 28))) bkP 13 (by kernel_rfl) (by kernel_rfl) (actI_keeps (bkG_kept (b.take 28))) actI_nil ?_
        simp only [List.take_succ_cons, List.take_zero, List.drop_succ_cons, List.drop_zero]
        refine tLex_quiets 4 rfl (by kernel_rfl) ?_
        simp only [List.take_succ_cons, List.take_zero, List.drop_succ_cons, List.drop_zero]
        apply Exists.intro
        refine ⟨?hq1, ?hv1, ?ht1⟩
        case hq1 =>
          intro V hV
          repeat (first
            | (refine wpQuiet_ld rfl _ _ rfl g11 0 rfl (pcs x) (fun w1 hw => row_grown (Row.kept HX.out.all hV (fun hf => hf)) hw) _ Try.underlying49 rfl (infP x HXOK.out) ?_; simp only [Act.put, List.setIfInBounds_toArray, List.set_cons_succ, List.set_cons_zero])
            | (go_big_quiet_step (first | with_reducible exact quietK (hmy _) | with_reducible exact quietK (wakes_yes _))))
          exact wpQuiet_nil rfl
        case hv1 => exact ⟨trivial, rfl, trivial, trivial, trivial⟩
        case ht1 =>
          refine tLex_act 24 #[.agg (pcs x).toArray] (fun u => ?he2) rfl rfl (.slice none 28 0) ⟨_, _, rfl⟩ ?hc2 ?_
          case he2 => simp [execOp, go_sem]
          case hc2 =>
            intro D u hu hI hdd
            refine (pbytes_yes x HXOK.out u).mono ?_
            rintro e w' ⟨v, rfl, hm⟩
            rw [HBX.out] at hm
            obtain ⟨A0, c0, rfl, hy, _⟩ := byt_own hm
            rw [HL28.out] at hy ⊢
            exact ⟨_, rfl, ⟨A0, c0, rfl⟩, hu.then hm.2, actI_snoc (bkG_kept (b.take 28)) hI hm.2 0 rfl ⟨A0, 28, c0, rfl, hy⟩, hm.2.size, fun k _ h2 => hm.2.block k h2 (fun hf => hf)⟩
          rintro r2 ⟨A2, c2, rfl⟩
          simp only [Act.put, List.setIfInBounds_toArray, List.set_cons_succ, List.set_cons_zero]
          refine tLex_quiets 2 rfl (by kernel_rfl) ?_
          simp only [List.take_succ_cons, List.take_zero, List.drop_succ_cons, List.drop_zero]
          apply Exists.intro
          refine ⟨?hq3, ?hv3, ?ht3⟩
          case hq3 =>
            intro V hV
            repeat (first
              | (refine wpQuiet_ld rfl _ _ rfl g11 0 rfl (pcs x) (fun w1 hw => row_grown (Row.kept HX.out.all hV (fun hf => hf)) hw) _ Try.underlying49 rfl (infP x HXOK.out) ?_; simp only [Act.put, List.setIfInBounds_toArray, List.set_cons_succ, List.set_cons_zero])
              | (go_big_quiet_step (first | with_reducible exact quietK (hmy _) | with_reducible exact quietK (wakes_yes _))))
            exact wpQuiet_nil rfl
          case hv3 => exact ⟨trivial, trivial, trivial⟩
          case ht3 =>
            refine tLex_act 20 #[.slice A2 28 c2, .slice A 28 c] (fun u => ?he4) rfl rfl (.bool true) rfl ?hc4 ?_
            case he4 => simp [execOp, go_sem]
            case hc4 =>
              intro D u hu hI hdd
              obtain ⟨A0, n0, c0, e1, hy1⟩ := hI 0 _ rfl
              cases e1
              refine (equal _ _ _ _ _ _ _ _ _ hy1 (HY28.out.kept hu (fun _ _ hf => hf))).mono ?_
              rintro e w' ⟨rfl, rfl⟩
              rw [beq_self_eq_true]
              exact ⟨_, rfl, rfl, hu, actI_snoc (bkG_kept (b.take 28)) hI (Kept.refl _ _) 1 rfl trivial, Nat.le_refl _, fun _ _ _ => rfl⟩
            intro v4 hv4
            obtain rfl : v4 = .bool true := hv4
            simp only [Act.put, List.setIfInBounds_toArray, List.set_cons_succ, List.set_cons_zero]
            refine tLex_quiets 5 rfl (by kernel_rfl) ?_
            simp only [List.take_succ_cons, List.take_zero, List.drop_succ_cons, List.drop_zero]
            apply Exists.intro
            refine ⟨?hq5, ?hv5, ?ht5⟩
            case hq5 =>
              intro V hV
              repeat (first
                | (refine wpQuiet_ld rfl _ _ rfl g11 0 rfl (pcs x) (fun w1 hw => row_grown (Row.kept HX.out.all hV (fun hf => hf)) hw) _ Try.underlying49 rfl (infP x HXOK.out) ?_; simp only [Act.put, List.setIfInBounds_toArray, List.set_cons_succ, List.set_cons_zero])
                | (go_big_quiet_step (first | with_reducible exact quietK (hmy _) | with_reducible exact quietK (wakes_yes _))))
              exact wpQuiet_nil rfl
            case hv5 => exact ⟨trivial, trivial, rfl, trivial, trivial, trivial⟩
            case ht5 =>
              intro w11 hs
              have HK11 := Lib.hid (HK10.out.then hs.kept)
              clear hs
              go_wp2
              go_ret
              exact ⟨rfl, HK11.out.below (Nat.le_refl _) (fun _ hf => hf.elim)⟩
      · obtain ⟨hx0, hEv⟩ := HGN.out hE
        subst hx0
        have bE : (E != 0) = true := by simp [hE]
        have heq : ∀ u, (Op.equalIn 10000 49 (.agg #[.int .u16 0, .int .u8 0, .int .u8 0, .int .u8 0, .int .u8 0, .int .u8 0, .int .u8 0, .int .u32 0, .int .u8 0, .int .u8 0, .int .u8 0, .int .u8 0, .int .u8 0, .int .u8 0, .int .u32 0]) (.agg #[.int .u16 0, .int .u8 0, .int .u8 0, .int .u8 0, .int .u8 0, .int .u8 0, .int .u8 0, .int .u32 0, .int .u8 0, .int .u8 0, .int .u8 0, .int .u8 0, .int .u8 0, .int .u8 0, .int .u32 0])).run Try.prog u = .ok true u := fun u => by
          have := eq_pk Pk.zero Pk.zero Pk.zero_ok Pk.zero_ok u
          rw [decide_eq_true rfl] at this
          exact this
        rw [HBLN.out] at hEv
        by_cases h28 : m < 28
        · rw [if_pos h28] at hEv
          have h28' : (m : Int) < 28 := by omega
          subst hEv
          clear hE HFG HGN
          go_wp2_with (first
            | (refine wpList_ld rfl _ _ rfl g11 0 rfl [.int .u16 0, .int .u8 0, .int .u8 0, .int .u8 0, .int .u8 0, .int .u8 0, .int .u8 0, .int .u32 0, .int .u8 0, .int .u8 0, .int .u8 0, .int .u8 0, .int .u8 0, .int .u8 0, .int .u32 0] HX.out.all _ Try.underlying49 rfl (infP _ Pk.zero_ok) ?_)
            | fail)
          refine (wakes_yes _).mono ?_
          rintro e w11 ⟨rfl, hk11⟩
          have HK11 := Lib.hid (HK10.out.then hk11)
          clear hk11
          go_wp2
          go_ret
          exact ⟨rfl, HK11.out.below (Nat.le_refl _) (fun _ hf => hf.elim)⟩
        · rw [if_neg h28] at hEv
          have h28' : ¬ (m : Int) < 28 := by omega
          subst hEv
          clear hE HFG HGN
          go_wp2_with (first
            | (refine wpList_ld rfl _ _ rfl g11 0 rfl [.int .u16 0, .int .u8 0, .int .u8 0, .int .u8 0, .int .u8 0, .int .u8 0, .int .u8 0, .int .u32 0, .int .u8 0, .int .u8 0, .int .u8 0, .int .u8 0, .int .u8 0, .int .u8 0, .int .u32 0] HX.out.all _ Try.underlying49 rfl (infP _ Pk.zero_ok) ?_)
            | fail)
          refine (wakes_yes _).mono ?_
          rintro e w11 ⟨rfl, hk11⟩
          have HK11 := Lib.hid (HK10.out.then hk11)
          clear hk11
          go_wp2
          go_ret
          exact ⟨rfl, HK11.out.below (Nat.le_refl _) (fun _ hf => hf.elim)⟩
end Go.Proofs.Ytddpdopccejmbaa
