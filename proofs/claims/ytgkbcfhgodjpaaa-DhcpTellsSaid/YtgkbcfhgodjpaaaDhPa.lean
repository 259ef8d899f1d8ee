/- tolllaw09.DhcpParts: the walk. -/
import Derived.Test.YtgkbcfhgodjpaaaDhY
import Derived.Test.YtgkbcfhgodjpaaaDhQ
import Derived.Test.YtgkbcfhgodjpaaaFrameA
import Derived.Test.YtgkbcfhgodjpaaaBd
import Derived.Test.YtgkbcfhgodjpaaaEthT
namespace Go.Proofs.Ytgkbcfhgodjpaaa
open Go.RowKit Go.Sort
set_option linter.unusedVariables false

theorem u8_of (t : Int) (ht : (Lit.int .u8 t).wf = true) : ∃ T : UInt8, t = (T.toNat : Int) := by
  have hb8 := wfu8 t ht
  obtain ⟨k, rfl⟩ := Int.eq_ofNat_of_zero_le hb8.1
  exact ⟨UInt8.ofNat k, by simp; omega⟩
theorem code_of (cd : UInt8) : ∃ C : UInt8, 1 + (cd.toNat : Int) % 253 = (C.toNat : Int) ∧ hasD C = true ∧ C ≠ 254 := by
  have h := cd.toNat_lt
  have e : (UInt8.ofNat (1 + cd.toNat % 253)).toNat = 1 + cd.toNat % 253 := by rw [UInt8.toNat_ofNat']; omega
  refine ⟨UInt8.ofNat (1 + cd.toNat % 253), by rw [e]; omega, ?_, ?_⟩
  · unfold hasD
    rw [decide_eq_true_eq]
    refine ⟨fun h0 => ?_, fun h0 => ?_⟩
    · have := congrArg UInt8.toNat h0; rw [e] at this; simp at this
    · have := congrArg UInt8.toNat h0; rw [e] at this; simp at this; omega
  · intro h0
    have := congrArg UInt8.toNat h0; rw [e] at this; simp at this; omega
theorem mod_of (at8 : UInt8) (m : Nat) (hm : m ≤ 60) : ∃ k : Nat, (wrap64 (at8.toNat : Int) = (at8.toNat : Int)) ∧ ((at8.toNat : Int).tmod ((m : Int) + 1) = (k : Int)) ∧ k ≤ m := by
  have h := at8.toNat_lt
  refine ⟨at8.toNat % (m + 1), by unfold wrap64; omega, ?_, ?_⟩
  · rw [show ((m : Int) + 1) = ((m + 1 : Nat) : Int) from rfl, ← Int.ofNat_tmod]
  · have := Nat.mod_lt at8.toNat (show 0 < m + 1 by omega)
    omega
/-- Rows that stand in one block, told as options. -/
theorem opts_rows {D : Nat → Prop} {k : IntKind} {W : World} {g : Nat} {T : TypeId} {cs : Array Value} (rs : List (List Value)) {os : List Opn} (hb : Blo W g T cs) (hc : cs = rs.flatten.toArray) (h2 : ∀ r ∈ rs, r.length = 2) (hl : rs.length = os.length) (hrow : ∀ (i : Nat) (r : List Value) (o : Opn), rs[i]? = some r → os[i]? = some o → OpR D k W r o) (hg : D g) (hN : rs.length ≤ 9223372036854775807) (n : Nat) (hn : os.length = n) : Opts D k W (some ⟨g, 0, none⟩) n n os := by
  refine ⟨hn, ⟨rs, rws_blo rs h2 hN hb hc n (by omega), hrow⟩, ?_⟩
  rintro i ⟨_, ad, e, rfl⟩
  cases e
  exact hg
theorem op_any {k : IntKind} {W : World} {A : Option Addr} {n c : Nat} {o : UInt8} {l : List UInt8} (h : Byt W A n c l) : OpR (fun _ => True) k W [.int k (o.toNat : Int), .slice A n c] (o, l) := ⟨A, n, c, rfl, h, fun _ _ => trivial⟩
theorem rows2 {k : IntKind} {W : World} {r1 r2 : List Value} {o1 o2 : Opn} {D : Nat → Prop} (h1 : OpR D k W r1 o1) (h2 : OpR D k W r2 o2) : ∀ (i : Nat) (r : List Value) (o : Opn), [r1, r2][i]? = some r → [o1, o2][i]? = some o → OpR D k W r o := by
  intro i r o hr ho
  match i with
  | 0 => simp at hr ho; subst hr ho; exact h1
  | 1 => simp at hr ho; subst hr ho; exact h2
  | i + 2 => simp at hr
theorem rows3 {k : IntKind} {W : World} {r1 r2 r3 : List Value} {o1 o2 o3 : Opn} {D : Nat → Prop} (h1 : OpR D k W r1 o1) (h2 : OpR D k W r2 o2) (h3 : OpR D k W r3 o3) : ∀ (i : Nat) (r : List Value) (o : Opn), [r1, r2, r3][i]? = some r → [o1, o2, o3][i]? = some o → OpR D k W r o := by
  intro i r o hr ho
  match i with
  | 0 => simp at hr ho; subst hr ho; exact h1
  | 1 => simp at hr ho; subst hr ho; exact h2
  | 2 => simp at hr ho; subst hr ho; exact h3
  | i + 3 => simp at hr
theorem bd_plain (A : Option Addr) (n c : Nat) (w : World) : (Instr.build 33 #[(0, .int .u8 1), (13, .slice A n c)]).run Try.prog w = .ok (dhv plainH (.slice A n c) nilv) w := by kernel_rfl
theorem bd_os (h : Dh) (hh : dns h = dns plainH ∧ h.st = zer 6 ∧ h.pd = zer 10 ∧ h.sv = zer 64 ∧ h.fi = zer 128) (A : Option Addr) (n c : Nat) (w : World) : (Instr.build 33 #[(0, .int .u8 1), (13, .slice A n c)]).run Try.prog w = .ok (dhv h (.slice A n c) nilv) w := by
  have e : dhv h (.slice A n c) nilv = dhv plainH (.slice A n c) nilv := by unfold dhv dcs; rw [hh.1, hh.2.1, hh.2.2.1, hh.2.2.2.1, hh.2.2.2.2]; rfl
  rw [e]
  exact bd_plain A n c w
theorem or4_num (x0 x1 x2 x3 : UInt8) : bits .or .u32 (bits .or .u32 (bits .or .u32 ((x0.toNat : Int) % 4294967296 * 16777216 % 4294967296) ((x1.toNat : Int) % 4294967296 * 65536 % 4294967296)) ((x2.toNat : Int) % 4294967296 * 256 % 4294967296)) ((x3.toNat : Int) % 4294967296) = (numM [x0, x1, x2, x3] : Int) := by
  have h0 := x0.toNat_lt
  have h1 := x1.toNat_lt
  have h2 := x2.toNat_lt
  have h3 := x3.toNat_lt
  rw [show (x0.toNat : Int) % 4294967296 * 16777216 % 4294967296 = ((x0.toNat * 16777216 : Nat) : Int) by omega, show (x1.toNat : Int) % 4294967296 * 65536 % 4294967296 = ((x1.toNat * 65536 : Nat) : Int) by omega, show (x2.toNat : Int) % 4294967296 * 256 % 4294967296 = ((x2.toNat * 256 : Nat) : Int) by omega, show (x3.toNat : Int) % 4294967296 = ((x3.toNat : Nat) : Int) by omega]
  rw [u32_or_nat _ _ (by omega) (by omega), nat_join 24 _ _ (by omega) (by omega), u32_or_nat _ _ (by omega) (by omega), nat_join 16 _ _ (by omega) (by omega), u32_or_nat _ _ (by omega) (by omega), nat_join 8 _ _ (by omega) (by omega)]
  simp only [numM, List.foldl_cons, List.foldl_nil]
  omega
set_option maxRecDepth 100000 in
set_option maxHeartbeats 32000000 in
theorem parts_yes (A : Option Addr) (n c : Nat) (l : List UInt8) (a1 a2 : Int) (w : World) (h : Byt w A n c l) (h1 : (Lit.int .u8 a1).wf = true) (h2 : (Lit.int .u8 a2).wf = true) :
    Calls Try.prog 5 #[.slice A n c, .int .u8 a1, .int .u8 a2] w fun e w' => e = .returned (.bool true) ∧ Below w.heap.size w w' := by
  obtain ⟨cd, rfl⟩ := u8_of a1 h1
  obtain ⟨at8, rfl⟩ := u8_of a2 h2
  clear h1 h2
  obtain ⟨m, m1, m2, m3, m4, m5⟩ := min60 n
  obtain ⟨C, hC, hC1, hC2⟩ := code_of cd
  obtain ⟨k, hk1, hk2, hk3⟩ := mod_of at8 m m4
  have hmc : m ≤ c := Nat.le_trans m3 h.2.1
  have hcut := run_cut_hi (P := Try.prog) Try.underlying31 inf5.1 A n c m (m : Int) rfl hmc
  have hcuth := run_cut_hi (P := Try.prog) Try.underlying31 inf5.1 A m c k (k : Int) rfl (by omega)
  have hcutl := run_cut_lo (P := Try.prog) Try.underlying31 inf5.1 inf5.2 A m c k (k : Int) rfl hk3
  have hy : Byt w A m c (l.take m) := h.pre m3
  have HY := Lib.hid hy
  have HLE := Lib.hid (show (l.take m).length ≤ 60 by rw [hy.1]; exact m4)
  have HLN := Lib.hid (show (l.take m).length = m from hy.1)
  have HYH := Lib.hid (show Byt w A k c ((l.take m).take k) from hy.pre hk3)
  have HYL := Lib.hid (show Byt w (cutA A c k) (m - k) (c - k) ((l.take m).drop k) from by
    have := hy.cut (lo := k) (hi := m) hk3 (Nat.le_refl _)
    rw [List.take_of_length_le (Nat.le_of_eq hy.1)] at this
    exact this)
  have HC1 := Lib.hid hC1
  have HC2 := Lib.hid hC2
  clear h m5 hC1 hC2 hy hmc
  generalize l.take m = l1 at *
  generalize cutA A c k = A2 at *
  generalize hc2 : c - k = c2 at *
  generalize hm2 : m - k = m2 at *
  go_enter Try.func5, Try.ntmps5
  go_upto_region 5 with (fail)
  refine wp_nameE (fun W => Byt W (some ⟨w.heap.size, 0, none⟩) 2 2 [9, 9] ∧ Blo W (w.heap.size + 1) 63 #[.int .u8 254, .slice (some ⟨w.heap.size, 0, none⟩) 2 2] ∧ Kept Nil w W) ⟨?n1, ?n2, ?n3⟩ ?_
  case n1 => exact (byt_lit w [9, 9] 5 #[.int .u8 9, .int .u8 9] rfl 2 rfl _ rfl (by decide)).kept ((Kept.refl Nil _).alloc _) (fun _ _ hf => hf)
  case n2 => exact Blo.at_new (by simp)
  case n3 => exact ((Kept.refl Nil w).alloc _).alloc _
  rintro w1 ⟨hy9, hb8, hk⟩
  have HY9 := Lib.hid hy9
  have HK1 := Lib.hid hk
  obtain ⟨g9, hg9⟩ : ∃ g, w.heap.size = g := ⟨_, rfl⟩
  have HY1 := Lib.hid (HY.out.kept hk (fun _ _ hf => hf))
  rw [hg9] at HY9 hb8 ⊢
  obtain ⟨g8, hg8⟩ : ∃ g, g9 + 1 = g := ⟨_, rfl⟩
  rw [hg8] at hb8 ⊢
  have HB8 := Lib.hid hb8
  have q0 := hb8.cell 0
  have q1 := hb8.cell 1
  simp at q0 q1
  clear hy9 hb8 hk hg8
  go_upto_region 6 with (first
    | (refine wpList_bd rfl 33 _ rfl #[(0, .int .u8 1), (13, .slice (some ⟨w1.heap.size, 0, none⟩) 2 2)] rfl (dhv (partW C l1) (.slice (some ⟨w1.heap.size, 0, none⟩) 2 2) nilv) (bd_os (partW C l1) ⟨rfl, rfl, rfl, rfl, rfl⟩ _ _ _) ?_; simp only [Act.put, List.setIfInBounds_toArray, List.set_cons_succ, List.set_cons_zero])
    | (refine wpList_al rfl 33 rfl (dcs Dh.zero nilv nilv) al_dh ?_; intro w2 hb2 hk2 hz2; clear hz2; simp only [Act.put, List.setIfInBounds_toArray, List.set_cons_succ, List.set_cons_zero]; rw [World.size_alloc] at hb2 ⊢)
    | (refine wpList_st rfl 33 (.tmp 9) (.tmp 45) rfl _ 0 rfl (dcs (partW C l1) (.slice (some ⟨w1.heap.size, 0, none⟩) 2 2) nilv) (dhv (partW C l1) (.slice (some ⟨w1.heap.size, 0, none⟩) 2 2) nilv) rfl rfl (infDh _ (partW_ok C l1).s6 _ _) 33 (dcs Dh.zero nilv nilv) hb2 (by rw [dcs_len (partW_ok C l1).s6, dcs_len Dh.zero_ok.s6]; decide) (dcs_one rfl rfl) ?_; intro w3 hb3 hk3 hz3; clear hz3; simp only [Act.put])
    | fail)
  have hk := ((Kept.refl Nil w1).alloc (.cells #[.int .u8 (C.toNat : Int), .slice A m c, .int .u8 254, .slice (some ⟨g9, 0, none⟩) 2 2] 63)).then (hk2.fresh hk3 (fun j hj => by cases hj; simp))
  have hbs := (Blo.new w1 63 #[.int .u8 (C.toNat : Int), .slice A m c, .int .u8 254, .slice (some ⟨g9, 0, none⟩) 2 2]).kept (hk2.fresh hk3 (fun j hj => by cases hj; simp)) (fun hf => hf)
  have HW3 := Lib.hid (DB.of_all (h' := partW C l1) Dh.zero_ok.s6 (partW_ok C l1).s6 hb3)
  have HK3 := Lib.hid (HK1.out.then hk)
  have HY3 := Lib.hid (HY1.out.kept hk (fun _ _ hf => hf))
  have HYH3 := Lib.hid (HYH.out.kept HK3.out (fun _ _ hf => hf))
  have HYL3 := Lib.hid (HYL.out.kept HK3.out (fun _ _ hf => hf))
  have HY93 := Lib.hid (HY9.out.kept hk (fun _ _ hf => hf))
  have HB83 := Lib.hid (HB8.out.kept hk (fun hf => hf))
  have HIW := Lib.hid (show DhIn (fun _ => True) w3 (partW C l1) (.slice (some ⟨w1.heap.size, 0, none⟩) 2 2) nilv from
    ⟨partW_ok C l1, ⟨_, 2, 2, rfl, opts_rows [[.int .u8 (C.toNat : Int), .slice A m c], [.int .u8 254, .slice (some ⟨g9, 0, none⟩) 2 2]] hbs rfl (by simp) rfl (rows2 (op_any (o := C) (HY1.out.kept hk (fun _ _ hf => hf))) (op_any (o := 254) (HY9.out.kept hk (fun _ _ hf => hf)))) trivial (by show 2 ≤ 9223372036854775807; decide) 2 rfl⟩, ⟨none, 0, 0, rfl, Byt.none _, fun i hi => absurd hi.1 (by omega)⟩⟩)
  obtain ⟨gs, hgs⟩ : ∃ g, w1.heap.size = g := ⟨_, rfl⟩
  rw [hgs] at HW3 HIW ⊢
  obtain ⟨gw, hgw⟩ : ∃ g, gs + 1 = g := ⟨_, rfl⟩
  rw [hgw] at HW3 ⊢
  clear hk hk2 hk3 hb2 hb3 hbs hgs hgw q0 q1 HY9 HB8 HY1 HK1 HY HYH HYL
  refine wp_region_acts Nil [] (fun i vl => if i = 11 then (#[.int .u8 (C.toNat : Int), .slice A k c, .int .u8 254, .slice (some ⟨g9, 0, none⟩) 2 2, .int .u8 (C.toNat : Int), .slice A2 m2 c2], 63) else ((dcs Dh.zero nilv nilv).toArray, 33)) (fun i => undef) (fun _ _ _ => True) (fun _ _ => True) 14 (by kernel_rfl) (by kernel_rfl) ⟨fun _ _ _ _ h _ => h, fun _ _ _ _ h => h⟩ trivial ?_
  simp only [List.take_succ_cons, List.take_zero, List.drop_succ_cons, List.drop_zero]
  refine tLex_quiets 11 rfl (by kernel_rfl) ?_
  simp only [List.take_succ_cons, List.take_zero, List.drop_succ_cons, List.drop_zero]
  apply Exists.intro
  refine ⟨?hq1, ?hv1, ?ht1⟩
  case hq1 =>
    intro V hV
    have hr := Blo.row [] [.int .u8 254, .slice (some ⟨g9, 0, none⟩) 2 2] [] (w := V) (g := g8) (t := 63) (HB83.out.kept hV (fun hf => hf))
    have HR := Lib.hid hr
    clear hV hr
    repeat (first
      | (refine wpQuiet_ld rfl _ _ rfl g8 0 rfl [.int .u8 254, .slice (some ⟨g9, 0, none⟩) 2 2] (fun w' hw => row_grown HR.out hw) _ Try.underlying63 rfl (infOp _ _) ?_; simp only [Act.put, List.setIfInBounds_toArray, List.set_cons_succ, List.set_cons_zero])
      | (go_big_quiet_step (fail)))
    exact wpQuiet_nil rfl
  case hv1 => exact ⟨trivial, trivial, trivial, trivial, trivial, trivial, trivial, trivial, trivial, trivial, trivial, trivial⟩
  case ht1 =>
    refine tLex_make (#[.int .u8 (C.toNat : Int), .slice A k c, .int .u8 254, .slice (some ⟨g9, 0, none⟩) 2 2, .int .u8 (C.toNat : Int), .slice A2 m2 c2], 63) rfl rfl rfl rfl (fun u => ?hm1) ?_
    case hm1 => simp [execOp, mkVal, Instr.buildSlice, go_sem]
    intro gp hgp hLp
    simp only [Act.put, mkVal, List.setIfInBounds_toArray, List.set_cons_succ, List.set_cons_zero]
    refine tLex_quiets 1 rfl (by kernel_rfl) ?_
    simp only [List.take_succ_cons, List.take_zero, List.drop_succ_cons, List.drop_zero]
    apply Exists.intro
    refine ⟨?hq2, ?hv2, ?ht2⟩
    case hq2 =>
      intro V hV
      clear hV
      refine wpQuiet_bd rfl 33 _ rfl #[(0, .int .u8 1), (13, .slice (some ⟨gp, 0, none⟩) 3 3)] rfl (dhv (partP C l1 k) (.slice (some ⟨gp, 0, none⟩) 3 3) nilv) (bd_os (partP C l1 k) ⟨rfl, rfl, rfl, rfl, rfl⟩ _ _ _) ?_
      exact wpQuiet_nil rfl
    case hv2 => exact ⟨trivial, trivial⟩
    case ht2 =>
      refine tLex_make ((dcs Dh.zero nilv nilv).toArray, 33) rfl rfl rfl rfl (fun u => ?hm2) ?_
      case hm2 =>
        unfold execOp
        simp only [mkVal, Sem.run_bind, Sem.run_pure, al_dh, Result.andThen_ok]
      intro gq hgq hLq
      simp only [Act.put, mkVal, List.setIfInBounds_toArray, List.set_cons_succ, List.set_cons_zero]
      intro w6 hs
      have hbq : Blo w6 gq 33 (dcs Dh.zero nilv nilv).toArray := (hs.made gq _ (mput_same _ _ _)).2
      have hne : gp ≠ gq := fun e => by
        rw [← e, mput_same] at hLq
        cases hLq
      have hbp : Blo w6 gp 63 #[.int .u8 (C.toNat : Int), .slice A k c, .int .u8 254, .slice (some ⟨g9, 0, none⟩) 2 2, .int .u8 (C.toNat : Int), .slice A2 m2 c2] := (hs.made gp _ (by rw [mput_ne _ _ hne]; exact mput_same _ _ _)).2
      have hk6 : Kept Nil w3 w6 := hs.kept
      have HBQ := Lib.hid hbq
      have HBP := Lib.hid hbp
      have HNE := Lib.hid hne
      have HK6 := Lib.hid hk6
      have HGQ := Lib.hid (show w3.heap.size ≤ gq from hgq)
      clear hbq hbp hne hk6 hs hgp hLp hgq hLq
      go_upto_region 7 with (first
        | (refine wpList_st rfl 33 (.tmp 10) (.tmp 58) rfl gq 0 rfl (dcs (partP C l1 k) (.slice (some ⟨gp, 0, none⟩) 3 3) nilv) (dhv (partP C l1 k) (.slice (some ⟨gp, 0, none⟩) 3 3) nilv) rfl rfl (infDh _ (partP_ok C l1 k).s6 _ _) 33 (dcs Dh.zero nilv nilv) HBQ.out (by rw [dcs_len (partP_ok C l1 k).s6, dcs_len Dh.zero_ok.s6]; decide) (dcs_one rfl rfl) ?_; intro w7 hb7 hk7 hz7; clear hz7; simp only [Act.put, List.setIfInBounds_toArray, List.set_cons_succ, List.set_cons_zero])
        | fail)
      have hk := HK6.out.fresh hk7 (fun j hj => by have := HGQ.out; cases hj; exact this)
      have hbp := HBP.out.kept hk7 (fun hf => by have := HNE.out; cases hf; exact this rfl)
      have HP7 := Lib.hid (DB.of_all (h' := partP C l1 k) Dh.zero_ok.s6 (partP_ok C l1 k).s6 hb7)
      have HW7 := Lib.hid (HW3.out.kept hk (fun hf => hf))
      have HY7 := Lib.hid (HY3.out.kept hk (fun _ _ hf => hf))
      have HIW7 := Lib.hid (HIW.out.nil hk)
      have HIP7 := Lib.hid (show DhIn (fun _ => True) w7 (partP C l1 k) (.slice (some ⟨gp, 0, none⟩) 3 3) nilv from
        ⟨partP_ok C l1 k, ⟨_, 3, 3, rfl, opts_rows [[.int .u8 (C.toNat : Int), .slice A k c], [.int .u8 254, .slice (some ⟨g9, 0, none⟩) 2 2], [.int .u8 (C.toNat : Int), .slice A2 m2 c2]] hbp rfl (by simp) rfl (rows3 (op_any (o := C) (HYH3.out.kept hk (fun _ _ hf => hf))) (op_any (o := 254) (HY93.out.kept hk (fun _ _ hf => hf))) (op_any (o := C) (HYL3.out.kept hk (fun _ _ hf => hf)))) trivial (by show 3 ≤ 9223372036854775807; decide) 3 rfl⟩, ⟨none, 0, 0, rfl, Byt.none _, fun i hi => absurd hi.1 (by omega)⟩⟩)
      have HK7 := Lib.hid (HK3.out.then hk)
      clear hk hk7 hb7 hbp HBQ HBP HNE HK6 HGQ HW3 HY3 HIW HK3 HYH3 HYL3 HY93 HB83
      obtain ⟨vW, hvW⟩ : ∃ v, Value.slice (some ⟨gs, 0, none⟩) 2 2 = v := ⟨_, rfl⟩
      obtain ⟨vP, hvP⟩ : ∃ v, Value.slice (some ⟨gp, 0, none⟩) 3 3 = v := ⟨_, rfl⟩
      rw [hvW] at HW7 HIW7 ⊢
      rw [hvP] at HP7 HIP7 ⊢
      clear hvW hvP
      go_wp2_with (first | (refine wpList_ld rfl _ _ rfl gw 0 rfl (dcs (partW C l1) vW nilv) HW7.out.all _ Try.underlying33 rfl (infDh _ (partW_ok C l1).s6 _ _) ?_; simp only [Act.put, List.setIfInBounds_toArray, List.set_cons_succ, List.set_cons_zero]) | fail)
      refine (value_yes _ (partW C l1) vW nilv C _ HIW7.out (totW HLE.out)).mono ?_
      rintro e w8 ⟨v, rfl, hm⟩
      rw [valW HC1.out HC2.out] at hm ⊢
      obtain ⟨Aa, ca, rfl, hya, -⟩ := byt_own hm
      have HYa := Lib.hid hya
      have hk := hm.2
      clear hm hya
      have HW8 := Lib.hid (HW7.out.kept hk (fun hf => hf))
      have HP8 := Lib.hid (HP7.out.kept hk (fun hf => hf))
      have HY8 := Lib.hid (HY7.out.kept hk (fun _ _ hf => hf))
      have HIW8 := Lib.hid (HIW7.out.nil hk)
      have HIP8 := Lib.hid (HIP7.out.nil hk)
      have HK8 := Lib.hid (HK7.out.then hk)
      clear hk HW7 HP7 HY7 HIW7 HIP7 HK7
      go_wp2_with (first | (refine wpList_ld rfl _ _ rfl gq 0 rfl (dcs (partP C l1 k) vP nilv) HP8.out.all _ Try.underlying33 rfl (infDh _ (partP_ok C l1 k).s6 _ _) ?_; simp only [Act.put, List.setIfInBounds_toArray, List.set_cons_succ, List.set_cons_zero]) | fail)
      refine (value_yes _ (partP C l1 k) vP nilv C _ HIP8.out (totP HLE.out)).mono ?_
      rintro e w9 ⟨v, rfl, hm⟩
      rw [valP HC1.out HC2.out] at hm ⊢
      obtain ⟨Ab, cb, rfl, hyb, -⟩ := byt_own hm
      have HYb := Lib.hid hyb
      have hk := hm.2
      clear hm hyb
      have HW9 := Lib.hid (HW8.out.kept hk (fun hf => hf))
      have HP9 := Lib.hid (HP8.out.kept hk (fun hf => hf))
      have HY9 := Lib.hid (HY8.out.kept hk (fun _ _ hf => hf))
      have HIW9 := Lib.hid (HIW8.out.nil hk)
      have HIP9 := Lib.hid (HIP8.out.nil hk)
      have HK9 := Lib.hid (HK8.out.then hk)
      have T := Lib.hid (HYa.out.kept hk (fun _ _ hf => hf))
      clear HYa
      have HYa := T
      clear T
      clear hk HW8 HP8 HY8 HIW8 HIP8 HK8
      go_wp2_with (first | (refine wpList_ld rfl _ _ rfl gw 0 rfl (dcs (partW C l1) vW nilv) HW9.out.all _ Try.underlying33 rfl (infDh _ (partW_ok C l1).s6 _ _) ?_; simp only [Act.put, List.setIfInBounds_toArray, List.set_cons_succ, List.set_cons_zero]) | fail)
      refine (number_yes _ (partW C l1) vW nilv C _ HIW9.out (totW HLE.out)).mono ?_
      rintro e w10 ⟨rfl, hk⟩
      rw [numW HC1.out HC2.out]
      have HW10 := Lib.hid (HW9.out.kept hk (fun hf => hf))
      have HP10 := Lib.hid (HP9.out.kept hk (fun hf => hf))
      have HY10 := Lib.hid (HY9.out.kept hk (fun _ _ hf => hf))
      have HIW10 := Lib.hid (HIW9.out.nil hk)
      have HIP10 := Lib.hid (HIP9.out.nil hk)
      have HK10 := Lib.hid (HK9.out.then hk)
      have T := Lib.hid (HYa.out.kept hk (fun _ _ hf => hf))
      clear HYa
      have HYa := T
      clear T
      have T := Lib.hid (HYb.out.kept hk (fun _ _ hf => hf))
      clear HYb
      have HYb := T
      clear T
      clear hk HW9 HP9 HY9 HIW9 HIP9 HK9
      go_wp2_with (first | (refine wpList_ld rfl _ _ rfl gq 0 rfl (dcs (partP C l1 k) vP nilv) HP10.out.all _ Try.underlying33 rfl (infDh _ (partP_ok C l1 k).s6 _ _) ?_; simp only [Act.put, List.setIfInBounds_toArray, List.set_cons_succ, List.set_cons_zero]) | fail)
      refine (number_yes _ (partP C l1 k) vP nilv C _ HIP10.out (totP HLE.out)).mono ?_
      rintro e w11 ⟨rfl, hk⟩
      rw [numP HC1.out HC2.out]
      have HW11 := Lib.hid (HW10.out.kept hk (fun hf => hf))
      have HP11 := Lib.hid (HP10.out.kept hk (fun hf => hf))
      have HY11 := Lib.hid (HY10.out.kept hk (fun _ _ hf => hf))
      have HIW11 := Lib.hid (HIW10.out.nil hk)
      have HIP11 := Lib.hid (HIP10.out.nil hk)
      have HK11 := Lib.hid (HK10.out.then hk)
      have T := Lib.hid (HYa.out.kept hk (fun _ _ hf => hf))
      clear HYa
      have HYa := T
      clear T
      have T := Lib.hid (HYb.out.kept hk (fun _ _ hf => hf))
      clear HYb
      have HYb := T
      clear T
      clear hk HW10 HP10 HY10 HIW10 HIP10 HK10
      go_wp2_with (first | (refine wpList_ld rfl _ _ rfl gq 0 rfl (dcs (partP C l1 k) vP nilv) HP11.out.all _ Try.underlying33 rfl (infDh _ (partP_ok C l1 k).s6 _ _) ?_; simp only [Act.put, List.setIfInBounds_toArray, List.set_cons_succ, List.set_cons_zero]) | fail)
      refine (value_yes _ (partP C l1 k) vP nilv 0 _ HIP11.out (totP HLE.out)).mono ?_
      rintro e w12 ⟨v, rfl, hm⟩
      rw [val0] at hm ⊢
      have hk := hm.2
      clear hm
      have HW12 := Lib.hid (HW11.out.kept hk (fun hf => hf))
      have HP12 := Lib.hid (HP11.out.kept hk (fun hf => hf))
      have HY12 := Lib.hid (HY11.out.kept hk (fun _ _ hf => hf))
      have HIW12 := Lib.hid (HIW11.out.nil hk)
      have HIP12 := Lib.hid (HIP11.out.nil hk)
      have HK12 := Lib.hid (HK11.out.then hk)
      have T := Lib.hid (HYa.out.kept hk (fun _ _ hf => hf))
      clear HYa
      have HYa := T
      clear T
      have T := Lib.hid (HYb.out.kept hk (fun _ _ hf => hf))
      clear HYb
      have HYb := T
      clear T
      clear hk HW11 HP11 HY11 HIW11 HIP11 HK11
      try dsimp only
      go_wp2_with (first | (refine wpList_ld rfl _ _ rfl gq 0 rfl (dcs (partP C l1 k) vP nilv) HP12.out.all _ Try.underlying33 rfl (infDh _ (partP_ok C l1 k).s6 _ _) ?_; simp only [Act.put, List.setIfInBounds_toArray, List.set_cons_succ, List.set_cons_zero]) | fail)
      refine (value_yes _ (partP C l1 k) vP nilv 255 _ HIP12.out (totP HLE.out)).mono ?_
      rintro e w13 ⟨v, rfl, hm⟩
      rw [val255] at hm ⊢
      have hk := hm.2
      clear hm
      have HW13 := Lib.hid (HW12.out.kept hk (fun hf => hf))
      have HP13 := Lib.hid (HP12.out.kept hk (fun hf => hf))
      have HY13 := Lib.hid (HY12.out.kept hk (fun _ _ hf => hf))
      have HIW13 := Lib.hid (HIW12.out.nil hk)
      have HIP13 := Lib.hid (HIP12.out.nil hk)
      have HK13 := Lib.hid (HK12.out.then hk)
      have T := Lib.hid (HYa.out.kept hk (fun _ _ hf => hf))
      clear HYa
      have HYa := T
      clear T
      have T := Lib.hid (HYb.out.kept hk (fun _ _ hf => hf))
      clear HYb
      have HYb := T
      clear T
      clear hk HW12 HP12 HY12 HIW12 HIP12 HK12
      rw [HLN.out] at HYa HYb ⊢
      have hbb : (l1 == l1) = true := by simp
      go_upto_region 13 with (fail)
      by_cases h4 : m = 4
      · have hb4 : ((m : Int) == 4) = true := by simp; omega
        have hn4 : numL4 l1 = (numM l1, true) := by unfold numL4; rw [if_pos (by rw [HLN.out]; exact h4)]
        rw [hn4]
        have hbn : ((numM l1 : Int) != (numM l1 : Int)) = false := by simp
        subst h4
        clear hn4
        go_upto_region 15 with (first | (go_at_call 17; first | (refine (equal Aa A 4 ca 4 c l1 l1 _ HYa.out HY13.out).mono ?_; rintro e w' ⟨rfl, rfl⟩) | (refine (equal Ab A 4 cb 4 c l1 l1 _ HYb.out HY13.out).mono ?_; rintro e w' ⟨rfl, rfl⟩)) | fail)
        obtain ⟨x0, x1, x2, x3, rfl⟩ := four_list l1 HLN.out
        obtain ⟨b, o, rfl, hcell⟩ := HY13.out.2.2.2 (by decide)
        have q0 := fun (d : Nat) (os : Array Obj) => (kept_grown' w13 d os).cell (hcell 0 (by simp)) (fun hf => hf)
        have q1 := fun (d : Nat) (os : Array Obj) => (kept_grown' w13 d os).cell (hcell 1 (by simp)) (fun hf => hf)
        have q2 := fun (d : Nat) (os : Array Obj) => (kept_grown' w13 d os).cell (hcell 2 (by simp)) (fun hf => hf)
        have q3 := fun (d : Nat) (os : Array Obj) => (kept_grown' w13 d os).cell (hcell 3 (by simp)) (fun hf => hf)
        simp only [List.getElem_cons_zero, List.getElem_cons_succ, Nat.add_zero] at q0 q1 q2 q3
        have hor := or4_num x0 x1 x2 x3
        clear hcell
        refine wp_region_quiet_below (by kernel_rfl) (by kernel_rfl) ?_
        repeat (go_big_quiet_step (fail))
        refine wpQuiet_nil ?_
        rintro w14 ⟨nq, hw⟩
        have hk : Kept Nil w13 w14 := by rw [hw]; exact kept_grown _ _
        clear hw
        have HW14 := Lib.hid (HW13.out.kept hk (fun hf => hf))
        have HP14 := Lib.hid (HP13.out.kept hk (fun hf => hf))
        have HY14 := Lib.hid (HY13.out.kept hk (fun _ _ hf => hf))
        have HIW14 := Lib.hid (HIW13.out.nil hk)
        have HIP14 := Lib.hid (HIP13.out.nil hk)
        have HK14 := Lib.hid (HK13.out.then hk)
        have T := Lib.hid (HYa.out.kept hk (fun _ _ hf => hf))
        clear HYa
        have HYa := T
        clear T
        have T := Lib.hid (HYb.out.kept hk (fun _ _ hf => hf))
        clear HYb
        have HYb := T
        clear T
        clear hk HW13 HP13 HY13 HIW13 HIP13 HK13
        go_upto_region 17 with (fail)
        clear q0 q1 q2 q3 hor hbn
        have HTT := Lib.hid (show typC C [x0, x1, x2, x3] = 0 by unfold typC typL; split <;> rfl)
        by_cases h53 : C = 53
        · have e53 : ((C.toNat : Int) == 53) = true := by have := u8_eq C 53; rw [show decide (C = 53) = true by simp [h53]] at this; exact this
          clear h53
          go_upto_region 18 with (fail)
          have TW := Lib.hid (fun (d : Nat) (os : Array Obj) => (show Calls Try.prog 18 #[.agg (dcs (partW C [x0, x1, x2, x3]) vW nilv).toArray] (grow (redrawn w14 d) os) fun e w' => e = .returned (.int .i64 0) ∧ Kept Nil (grow (redrawn w14 d) os) w' from by
            have := type_yes _ (partW C [x0, x1, x2, x3]) vW nilv (grow (redrawn w14 d) os) (HIW14.out.nil (kept_grown' _ d os)) (totW HLE.out)
            rw [typW HC2.out, HTT.out, show ((0 : Nat) : Int) = 0 from rfl] at this
            exact this))
          have TP := Lib.hid (fun (d : Nat) (os : Array Obj) => (show Calls Try.prog 18 #[.agg (dcs (partP C [x0, x1, x2, x3] k) vP nilv).toArray] (grow (redrawn w14 d) os) fun e w' => e = .returned (.int .i64 0) ∧ Kept Nil (grow (redrawn w14 d) os) w' from by
            have := type_yes _ (partP C [x0, x1, x2, x3] k) vP nilv (grow (redrawn w14 d) os) (HIP14.out.nil (kept_grown' _ d os)) (totP HLE.out)
            rw [typP HC2.out, HTT.out, show ((0 : Nat) : Int) = 0 from rfl] at this
            exact this))
          refine wp_region_quiet_below (by kernel_rfl) (by kernel_rfl) ?_
          refine wpQuiet_ld rfl _ _ rfl gw 0 rfl (dcs (partW C [x0, x1, x2, x3]) vW nilv) (fun w' hw => row_grown HW14.out.all hw) _ Try.underlying33 rfl (infDh _ (partW_ok C [x0, x1, x2, x3]).s6 _ _) ?_; simp only [Act.put, List.setIfInBounds_toArray, List.set_cons_succ, List.set_cons_zero]
          go_big_quiet_step (exact quietK (TW.out _ _))
          refine wpQuiet_ld rfl _ _ rfl gq 0 rfl (dcs (partP C [x0, x1, x2, x3] k) vP nilv) (fun w' hw => row_grown HP14.out.all hw) _ Try.underlying33 rfl (infDh _ (partP_ok C [x0, x1, x2, x3] k).s6 _ _) ?_; simp only [Act.put, List.setIfInBounds_toArray, List.set_cons_succ, List.set_cons_zero]
          go_big_quiet_step (exact quietK (TP.out _ _))
          go_big_quiet_step (fail)
          go_big_quiet_step (fail)
          refine wpQuiet_ld rfl _ _ rfl gw 0 rfl (dcs (partW C [x0, x1, x2, x3]) vW nilv) (fun w' hw => row_grown HW14.out.all hw) _ Try.underlying33 rfl (infDh _ (partW_ok C [x0, x1, x2, x3]).s6 _ _) ?_; simp only [Act.put, List.setIfInBounds_toArray, List.set_cons_succ, List.set_cons_zero]
          go_big_quiet_step (exact quietK (TW.out _ _))
          go_big_quiet_step (fail)
          go_big_quiet_step (fail)
          go_big_quiet_step (fail)
          go_big_quiet_step (fail)
          go_big_quiet_step (fail)
          go_big_quiet_step (fail)
          go_big_quiet_step (fail)
          go_big_quiet_step (fail)
          repeat (go_big_quiet_step (exact quietK (wakes_yes _)))
          refine wpQuiet_nil ?_
          rintro wz ⟨nq, hw⟩
          have HKZ := Lib.hid (HK14.out.then (show Kept Nil w14 wz from by rw [hw]; exact kept_grown _ _))
          clear hw
          go_wp2
          go_ret
          exact ⟨rfl, HKZ.out.below (by omega) (fun _ hf => hf.elim)⟩
        · have e53 : ((C.toNat : Int) == 53) = false := by have := u8_eq C 53; rw [show decide (C = 53) = false by simp [h53]] at this; exact this
          clear h53
          go_upto_region 18 with (fail)
          have TW := Lib.hid (fun (d : Nat) (os : Array Obj) => (show Calls Try.prog 18 #[.agg (dcs (partW C [x0, x1, x2, x3]) vW nilv).toArray] (grow (redrawn w14 d) os) fun e w' => e = .returned (.int .i64 0) ∧ Kept Nil (grow (redrawn w14 d) os) w' from by
            have := type_yes _ (partW C [x0, x1, x2, x3]) vW nilv (grow (redrawn w14 d) os) (HIW14.out.nil (kept_grown' _ d os)) (totW HLE.out)
            rw [typW HC2.out, HTT.out, show ((0 : Nat) : Int) = 0 from rfl] at this
            exact this))
          have TP := Lib.hid (fun (d : Nat) (os : Array Obj) => (show Calls Try.prog 18 #[.agg (dcs (partP C [x0, x1, x2, x3] k) vP nilv).toArray] (grow (redrawn w14 d) os) fun e w' => e = .returned (.int .i64 0) ∧ Kept Nil (grow (redrawn w14 d) os) w' from by
            have := type_yes _ (partP C [x0, x1, x2, x3] k) vP nilv (grow (redrawn w14 d) os) (HIP14.out.nil (kept_grown' _ d os)) (totP HLE.out)
            rw [typP HC2.out, HTT.out, show ((0 : Nat) : Int) = 0 from rfl] at this
            exact this))
          refine wp_region_quiet_below (by kernel_rfl) (by kernel_rfl) ?_
          refine wpQuiet_ld rfl _ _ rfl gw 0 rfl (dcs (partW C [x0, x1, x2, x3]) vW nilv) (fun w' hw => row_grown HW14.out.all hw) _ Try.underlying33 rfl (infDh _ (partW_ok C [x0, x1, x2, x3]).s6 _ _) ?_; simp only [Act.put, List.setIfInBounds_toArray, List.set_cons_succ, List.set_cons_zero]
          go_big_quiet_step (exact quietK (TW.out _ _))
          refine wpQuiet_ld rfl _ _ rfl gq 0 rfl (dcs (partP C [x0, x1, x2, x3] k) vP nilv) (fun w' hw => row_grown HP14.out.all hw) _ Try.underlying33 rfl (infDh _ (partP_ok C [x0, x1, x2, x3] k).s6 _ _) ?_; simp only [Act.put, List.setIfInBounds_toArray, List.set_cons_succ, List.set_cons_zero]
          go_big_quiet_step (exact quietK (TP.out _ _))
          go_big_quiet_step (fail)
          go_big_quiet_step (fail)
          refine wpQuiet_ld rfl _ _ rfl gw 0 rfl (dcs (partW C [x0, x1, x2, x3]) vW nilv) (fun w' hw => row_grown HW14.out.all hw) _ Try.underlying33 rfl (infDh _ (partW_ok C [x0, x1, x2, x3]).s6 _ _) ?_; simp only [Act.put, List.setIfInBounds_toArray, List.set_cons_succ, List.set_cons_zero]
          go_big_quiet_step (exact quietK (TW.out _ _))
          go_big_quiet_step (fail)
          go_big_quiet_step (fail)
          go_big_quiet_step (fail)
          go_big_quiet_step (fail)
          go_big_quiet_step (fail)
          go_big_quiet_step (fail)
          go_big_quiet_step (fail)
          go_big_quiet_step (fail)
          repeat (go_big_quiet_step (exact quietK (wakes_yes _)))
          refine wpQuiet_nil ?_
          rintro wz ⟨nq, hw⟩
          have HKZ := Lib.hid (HK14.out.then (show Kept Nil w14 wz from by rw [hw]; exact kept_grown _ _))
          clear hw
          go_wp2
          go_ret
          exact ⟨rfl, HKZ.out.below (by omega) (fun _ hf => hf.elim)⟩
      · have hb4 : ((m : Int) == 4) = false := by simp; omega
        have hn4 : numL4 l1 = (0, false) := by unfold numL4; rw [if_neg (by rw [HLN.out]; exact h4)]
        rw [hn4]
        have H4 := Lib.hid h4
        clear h4 hn4
        go_upto_region 15 with (first | (go_at_call 17; first | (refine (equal Aa A m ca m c l1 l1 _ HYa.out HY13.out).mono ?_; rintro e w' ⟨rfl, rfl⟩) | (refine (equal Ab A m cb m c l1 l1 _ HYb.out HY13.out).mono ?_; rintro e w' ⟨rfl, rfl⟩)) | fail)
        refine wp_region_quiet_below (by kernel_rfl) (by kernel_rfl) ?_
        repeat (go_big_quiet_step (fail))
        refine wpQuiet_nil ?_
        rintro w14 ⟨nq, hw⟩
        have hk : Kept Nil w13 w14 := by rw [hw]; exact kept_grown _ _
        clear hw
        have HW14 := Lib.hid (HW13.out.kept hk (fun hf => hf))
        have HP14 := Lib.hid (HP13.out.kept hk (fun hf => hf))
        have HY14 := Lib.hid (HY13.out.kept hk (fun _ _ hf => hf))
        have HIW14 := Lib.hid (HIW13.out.nil hk)
        have HIP14 := Lib.hid (HIP13.out.nil hk)
        have HK14 := Lib.hid (HK13.out.then hk)
        have T := Lib.hid (HYa.out.kept hk (fun _ _ hf => hf))
        clear HYa
        have HYa := T
        clear T
        have T := Lib.hid (HYb.out.kept hk (fun _ _ hf => hf))
        clear HYb
        have HYb := T
        clear T
        clear hk HW13 HP13 HY13 HIW13 HIP13 HK13
        go_upto_region 17 with (fail)
        by_cases h53 : C = 53
        · have e53 : ((C.toNat : Int) == 53) = true := by have := u8_eq C 53; rw [show decide (C = 53) = true by simp [h53]] at this; exact this
          by_cases h1 : m = 1
          · obtain ⟨b1, hb1⟩ := one_of l1 (by rw [HLN.out]; exact h1)
            obtain ⟨bb, oo, rfl, hcell⟩ := HY14.out.2.2.2 (by omega)
            have hc0 := hcell 0 (by rw [hb1]; simp)
            have e0 : l1[0]'(by rw [hb1]; simp) = b1 := by simp [hb1]
            rw [e0, Nat.add_zero] at hc0
            have hq0 := fun (d : Nat) (os : Array Obj) => (kept_grown' w14 d os).cell hc0 (fun hf => hf)
            have em : ((m : Int) == 1) = true := by simp; omega
            have em0 : (0 : Int) < (m : Int) := by omega
            have em1 : 0 < m := by omega
            have hw64 : wrap64 (b1.toNat : Int) = (b1.toNat : Int) := by unfold wrap64; have := b1.toNat_lt; omega
            clear hcell e0
            by_cases hlo : 1 ≤ b1.toNat
            · have g1 : decide ((1 : Int) ≤ (b1.toNat : Int)) = true := by simp; omega
              have g1' : (1 : Int) ≤ (b1.toNat : Int) := by omega
              by_cases hhi : b1.toNat ≤ 8
              · have g2 : decide ((b1.toNat : Int) ≤ 8) = true := by simp; omega
                have g2' : (b1.toNat : Int) ≤ 8 := by omega
                have g3 : ((b1.toNat : Int) != 0) = true := by simp; omega
                have HTT := Lib.hid (show typC C l1 = b1.toNat by unfold typC typL; rw [if_pos h53, hb1]; simp only; rw [if_pos ⟨hlo, hhi⟩])
                clear h53 h1 hb1 hlo hhi
                go_upto_region 18 with (fail)
                have TW := Lib.hid (fun (d : Nat) (os : Array Obj) => (show Calls Try.prog 18 #[.agg (dcs (partW C l1) vW nilv).toArray] (grow (redrawn w14 d) os) fun e w' => e = .returned (.int .i64 (b1.toNat : Int)) ∧ Kept Nil (grow (redrawn w14 d) os) w' from by
                  have := type_yes _ (partW C l1) vW nilv (grow (redrawn w14 d) os) (HIW14.out.nil (kept_grown' _ d os)) (totW HLE.out)
                  rw [typW HC2.out, HTT.out] at this
                  exact this))
                have TP := Lib.hid (fun (d : Nat) (os : Array Obj) => (show Calls Try.prog 18 #[.agg (dcs (partP C l1 k) vP nilv).toArray] (grow (redrawn w14 d) os) fun e w' => e = .returned (.int .i64 (b1.toNat : Int)) ∧ Kept Nil (grow (redrawn w14 d) os) w' from by
                  have := type_yes _ (partP C l1 k) vP nilv (grow (redrawn w14 d) os) (HIP14.out.nil (kept_grown' _ d os)) (totP HLE.out)
                  rw [typP HC2.out, HTT.out] at this
                  exact this))
                refine wp_region_quiet_below (by kernel_rfl) (by kernel_rfl) ?_
                refine wpQuiet_ld rfl _ _ rfl gw 0 rfl (dcs (partW C l1) vW nilv) (fun w' hw => row_grown HW14.out.all hw) _ Try.underlying33 rfl (infDh _ (partW_ok C l1).s6 _ _) ?_; simp only [Act.put, List.setIfInBounds_toArray, List.set_cons_succ, List.set_cons_zero]
                go_big_quiet_step (exact quietK (TW.out _ _))
                refine wpQuiet_ld rfl _ _ rfl gq 0 rfl (dcs (partP C l1 k) vP nilv) (fun w' hw => row_grown HP14.out.all hw) _ Try.underlying33 rfl (infDh _ (partP_ok C l1 k).s6 _ _) ?_; simp only [Act.put, List.setIfInBounds_toArray, List.set_cons_succ, List.set_cons_zero]
                go_big_quiet_step (exact quietK (TP.out _ _))
                go_big_quiet_step (fail)
                go_big_quiet_step (fail)
                refine wpQuiet_ld rfl _ _ rfl gw 0 rfl (dcs (partW C l1) vW nilv) (fun w' hw => row_grown HW14.out.all hw) _ Try.underlying33 rfl (infDh _ (partW_ok C l1).s6 _ _) ?_; simp only [Act.put, List.setIfInBounds_toArray, List.set_cons_succ, List.set_cons_zero]
                go_big_quiet_step (exact quietK (TW.out _ _))
                go_big_quiet_step (fail)
                go_big_quiet_step (fail)
                go_big_quiet_step (fail)
                go_big_quiet_step (fail)
                go_big_quiet_step (fail)
                go_big_quiet_step (fail)
                go_big_quiet_step (fail)
                go_big_quiet_step (fail)
                refine wpQuiet_ld rfl _ _ rfl gw 0 rfl (dcs (partW C l1) vW nilv) (fun w' hw => row_grown HW14.out.all hw) _ Try.underlying33 rfl (infDh _ (partW_ok C l1).s6 _ _) ?_; simp only [Act.put, List.setIfInBounds_toArray, List.set_cons_succ, List.set_cons_zero]
                go_big_quiet_step (exact quietK (TW.out _ _))
                repeat (go_big_quiet_step (exact quietK (wakes_yes _)))
                refine wpQuiet_nil ?_
                rintro wz ⟨nq, hw⟩
                have HKZ := Lib.hid (HK14.out.then (show Kept Nil w14 wz from by rw [hw]; exact kept_grown _ _))
                clear hw
                go_wp2
                go_ret
                exact ⟨rfl, HKZ.out.below (by omega) (fun _ hf => hf.elim)⟩
              · have g2 : decide ((b1.toNat : Int) ≤ 8) = false := by simp; omega
                have g2' : ¬ (b1.toNat : Int) ≤ 8 := by omega
                have HTT := Lib.hid (show typC C l1 = 0 by unfold typC typL; rw [if_pos h53, hb1]; simp only; rw [if_neg (by omega)])
                clear h53 h1 hb1 hlo hhi
                go_upto_region 18 with (fail)
                have TW := Lib.hid (fun (d : Nat) (os : Array Obj) => (show Calls Try.prog 18 #[.agg (dcs (partW C l1) vW nilv).toArray] (grow (redrawn w14 d) os) fun e w' => e = .returned (.int .i64 0) ∧ Kept Nil (grow (redrawn w14 d) os) w' from by
                  have := type_yes _ (partW C l1) vW nilv (grow (redrawn w14 d) os) (HIW14.out.nil (kept_grown' _ d os)) (totW HLE.out)
                  rw [typW HC2.out, HTT.out, show ((0 : Nat) : Int) = 0 from rfl] at this
                  exact this))
                have TP := Lib.hid (fun (d : Nat) (os : Array Obj) => (show Calls Try.prog 18 #[.agg (dcs (partP C l1 k) vP nilv).toArray] (grow (redrawn w14 d) os) fun e w' => e = .returned (.int .i64 0) ∧ Kept Nil (grow (redrawn w14 d) os) w' from by
                  have := type_yes _ (partP C l1 k) vP nilv (grow (redrawn w14 d) os) (HIP14.out.nil (kept_grown' _ d os)) (totP HLE.out)
                  rw [typP HC2.out, HTT.out, show ((0 : Nat) : Int) = 0 from rfl] at this
                  exact this))
                refine wp_region_quiet_below (by kernel_rfl) (by kernel_rfl) ?_
                refine wpQuiet_ld rfl _ _ rfl gw 0 rfl (dcs (partW C l1) vW nilv) (fun w' hw => row_grown HW14.out.all hw) _ Try.underlying33 rfl (infDh _ (partW_ok C l1).s6 _ _) ?_; simp only [Act.put, List.setIfInBounds_toArray, List.set_cons_succ, List.set_cons_zero]
                go_big_quiet_step (exact quietK (TW.out _ _))
                refine wpQuiet_ld rfl _ _ rfl gq 0 rfl (dcs (partP C l1 k) vP nilv) (fun w' hw => row_grown HP14.out.all hw) _ Try.underlying33 rfl (infDh _ (partP_ok C l1 k).s6 _ _) ?_; simp only [Act.put, List.setIfInBounds_toArray, List.set_cons_succ, List.set_cons_zero]
                go_big_quiet_step (exact quietK (TP.out _ _))
                go_big_quiet_step (fail)
                go_big_quiet_step (fail)
                refine wpQuiet_ld rfl _ _ rfl gw 0 rfl (dcs (partW C l1) vW nilv) (fun w' hw => row_grown HW14.out.all hw) _ Try.underlying33 rfl (infDh _ (partW_ok C l1).s6 _ _) ?_; simp only [Act.put, List.setIfInBounds_toArray, List.set_cons_succ, List.set_cons_zero]
                go_big_quiet_step (exact quietK (TW.out _ _))
                go_big_quiet_step (fail)
                go_big_quiet_step (fail)
                go_big_quiet_step (fail)
                go_big_quiet_step (fail)
                go_big_quiet_step (fail)
                go_big_quiet_step (fail)
                go_big_quiet_step (fail)
                go_big_quiet_step (fail)
                repeat (go_big_quiet_step (exact quietK (wakes_yes _)))
                refine wpQuiet_nil ?_
                rintro wz ⟨nq, hw⟩
                have HKZ := Lib.hid (HK14.out.then (show Kept Nil w14 wz from by rw [hw]; exact kept_grown _ _))
                clear hw
                go_wp2
                go_ret
                exact ⟨rfl, HKZ.out.below (by omega) (fun _ hf => hf.elim)⟩
            · have g1 : decide ((1 : Int) ≤ (b1.toNat : Int)) = false := by simp; omega
              have g1' : ¬ (1 : Int) ≤ (b1.toNat : Int) := by omega
              have HTT := Lib.hid (show typC C l1 = 0 by unfold typC typL; rw [if_pos h53, hb1]; simp only; rw [if_neg (by omega)])
              clear h53 h1 hb1 hlo
              go_upto_region 18 with (fail)
              have TW := Lib.hid (fun (d : Nat) (os : Array Obj) => (show Calls Try.prog 18 #[.agg (dcs (partW C l1) vW nilv).toArray] (grow (redrawn w14 d) os) fun e w' => e = .returned (.int .i64 0) ∧ Kept Nil (grow (redrawn w14 d) os) w' from by
                have := type_yes _ (partW C l1) vW nilv (grow (redrawn w14 d) os) (HIW14.out.nil (kept_grown' _ d os)) (totW HLE.out)
                rw [typW HC2.out, HTT.out, show ((0 : Nat) : Int) = 0 from rfl] at this
                exact this))
              have TP := Lib.hid (fun (d : Nat) (os : Array Obj) => (show Calls Try.prog 18 #[.agg (dcs (partP C l1 k) vP nilv).toArray] (grow (redrawn w14 d) os) fun e w' => e = .returned (.int .i64 0) ∧ Kept Nil (grow (redrawn w14 d) os) w' from by
                have := type_yes _ (partP C l1 k) vP nilv (grow (redrawn w14 d) os) (HIP14.out.nil (kept_grown' _ d os)) (totP HLE.out)
                rw [typP HC2.out, HTT.out, show ((0 : Nat) : Int) = 0 from rfl] at this
                exact this))
              refine wp_region_quiet_below (by kernel_rfl) (by kernel_rfl) ?_
              refine wpQuiet_ld rfl _ _ rfl gw 0 rfl (dcs (partW C l1) vW nilv) (fun w' hw => row_grown HW14.out.all hw) _ Try.underlying33 rfl (infDh _ (partW_ok C l1).s6 _ _) ?_; simp only [Act.put, List.setIfInBounds_toArray, List.set_cons_succ, List.set_cons_zero]
              go_big_quiet_step (exact quietK (TW.out _ _))
              refine wpQuiet_ld rfl _ _ rfl gq 0 rfl (dcs (partP C l1 k) vP nilv) (fun w' hw => row_grown HP14.out.all hw) _ Try.underlying33 rfl (infDh _ (partP_ok C l1 k).s6 _ _) ?_; simp only [Act.put, List.setIfInBounds_toArray, List.set_cons_succ, List.set_cons_zero]
              go_big_quiet_step (exact quietK (TP.out _ _))
              go_big_quiet_step (fail)
              go_big_quiet_step (fail)
              refine wpQuiet_ld rfl _ _ rfl gw 0 rfl (dcs (partW C l1) vW nilv) (fun w' hw => row_grown HW14.out.all hw) _ Try.underlying33 rfl (infDh _ (partW_ok C l1).s6 _ _) ?_; simp only [Act.put, List.setIfInBounds_toArray, List.set_cons_succ, List.set_cons_zero]
              go_big_quiet_step (exact quietK (TW.out _ _))
              go_big_quiet_step (fail)
              go_big_quiet_step (fail)
              go_big_quiet_step (fail)
              go_big_quiet_step (fail)
              go_big_quiet_step (fail)
              go_big_quiet_step (fail)
              go_big_quiet_step (fail)
              go_big_quiet_step (fail)
              repeat (go_big_quiet_step (exact quietK (wakes_yes _)))
              refine wpQuiet_nil ?_
              rintro wz ⟨nq, hw⟩
              have HKZ := Lib.hid (HK14.out.then (show Kept Nil w14 wz from by rw [hw]; exact kept_grown _ _))
              clear hw
              go_wp2
              go_ret
              exact ⟨rfl, HKZ.out.below (by omega) (fun _ hf => hf.elim)⟩
          · have em : ((m : Int) == 1) = false := by simp; omega
            have HTT := Lib.hid (show typC C l1 = 0 by unfold typC; rw [if_pos h53]; exact typL_not l1 (by rw [HLN.out]; exact h1))
            clear h53 h1
            go_upto_region 18 with (fail)
            have TW := Lib.hid (fun (d : Nat) (os : Array Obj) => (show Calls Try.prog 18 #[.agg (dcs (partW C l1) vW nilv).toArray] (grow (redrawn w14 d) os) fun e w' => e = .returned (.int .i64 0) ∧ Kept Nil (grow (redrawn w14 d) os) w' from by
              have := type_yes _ (partW C l1) vW nilv (grow (redrawn w14 d) os) (HIW14.out.nil (kept_grown' _ d os)) (totW HLE.out)
              rw [typW HC2.out, HTT.out, show ((0 : Nat) : Int) = 0 from rfl] at this
              exact this))
            have TP := Lib.hid (fun (d : Nat) (os : Array Obj) => (show Calls Try.prog 18 #[.agg (dcs (partP C l1 k) vP nilv).toArray] (grow (redrawn w14 d) os) fun e w' => e = .returned (.int .i64 0) ∧ Kept Nil (grow (redrawn w14 d) os) w' from by
              have := type_yes _ (partP C l1 k) vP nilv (grow (redrawn w14 d) os) (HIP14.out.nil (kept_grown' _ d os)) (totP HLE.out)
              rw [typP HC2.out, HTT.out, show ((0 : Nat) : Int) = 0 from rfl] at this
              exact this))
            refine wp_region_quiet_below (by kernel_rfl) (by kernel_rfl) ?_
            refine wpQuiet_ld rfl _ _ rfl gw 0 rfl (dcs (partW C l1) vW nilv) (fun w' hw => row_grown HW14.out.all hw) _ Try.underlying33 rfl (infDh _ (partW_ok C l1).s6 _ _) ?_; simp only [Act.put, List.setIfInBounds_toArray, List.set_cons_succ, List.set_cons_zero]
            go_big_quiet_step (exact quietK (TW.out _ _))
            refine wpQuiet_ld rfl _ _ rfl gq 0 rfl (dcs (partP C l1 k) vP nilv) (fun w' hw => row_grown HP14.out.all hw) _ Try.underlying33 rfl (infDh _ (partP_ok C l1 k).s6 _ _) ?_; simp only [Act.put, List.setIfInBounds_toArray, List.set_cons_succ, List.set_cons_zero]
            go_big_quiet_step (exact quietK (TP.out _ _))
            go_big_quiet_step (fail)
            go_big_quiet_step (fail)
            refine wpQuiet_ld rfl _ _ rfl gw 0 rfl (dcs (partW C l1) vW nilv) (fun w' hw => row_grown HW14.out.all hw) _ Try.underlying33 rfl (infDh _ (partW_ok C l1).s6 _ _) ?_; simp only [Act.put, List.setIfInBounds_toArray, List.set_cons_succ, List.set_cons_zero]
            go_big_quiet_step (exact quietK (TW.out _ _))
            go_big_quiet_step (fail)
            go_big_quiet_step (fail)
            go_big_quiet_step (fail)
            go_big_quiet_step (fail)
            go_big_quiet_step (fail)
            go_big_quiet_step (fail)
            go_big_quiet_step (fail)
            go_big_quiet_step (fail)
            repeat (go_big_quiet_step (exact quietK (wakes_yes _)))
            refine wpQuiet_nil ?_
            rintro wz ⟨nq, hw⟩
            have HKZ := Lib.hid (HK14.out.then (show Kept Nil w14 wz from by rw [hw]; exact kept_grown _ _))
            clear hw
            go_wp2
            go_ret
            exact ⟨rfl, HKZ.out.below (by omega) (fun _ hf => hf.elim)⟩
        · have e53 : ((C.toNat : Int) == 53) = false := by have := u8_eq C 53; rw [show decide (C = 53) = false by simp [h53]] at this; exact this
          have HTT := Lib.hid (show typC C l1 = 0 by unfold typC; rw [if_neg h53])
          clear h53
          go_upto_region 18 with (fail)
          have TW := Lib.hid (fun (d : Nat) (os : Array Obj) => (show Calls Try.prog 18 #[.agg (dcs (partW C l1) vW nilv).toArray] (grow (redrawn w14 d) os) fun e w' => e = .returned (.int .i64 0) ∧ Kept Nil (grow (redrawn w14 d) os) w' from by
            have := type_yes _ (partW C l1) vW nilv (grow (redrawn w14 d) os) (HIW14.out.nil (kept_grown' _ d os)) (totW HLE.out)
            rw [typW HC2.out, HTT.out, show ((0 : Nat) : Int) = 0 from rfl] at this
            exact this))
          have TP := Lib.hid (fun (d : Nat) (os : Array Obj) => (show Calls Try.prog 18 #[.agg (dcs (partP C l1 k) vP nilv).toArray] (grow (redrawn w14 d) os) fun e w' => e = .returned (.int .i64 0) ∧ Kept Nil (grow (redrawn w14 d) os) w' from by
            have := type_yes _ (partP C l1 k) vP nilv (grow (redrawn w14 d) os) (HIP14.out.nil (kept_grown' _ d os)) (totP HLE.out)
            rw [typP HC2.out, HTT.out, show ((0 : Nat) : Int) = 0 from rfl] at this
            exact this))
          refine wp_region_quiet_below (by kernel_rfl) (by kernel_rfl) ?_
          refine wpQuiet_ld rfl _ _ rfl gw 0 rfl (dcs (partW C l1) vW nilv) (fun w' hw => row_grown HW14.out.all hw) _ Try.underlying33 rfl (infDh _ (partW_ok C l1).s6 _ _) ?_; simp only [Act.put, List.setIfInBounds_toArray, List.set_cons_succ, List.set_cons_zero]
          go_big_quiet_step (exact quietK (TW.out _ _))
          refine wpQuiet_ld rfl _ _ rfl gq 0 rfl (dcs (partP C l1 k) vP nilv) (fun w' hw => row_grown HP14.out.all hw) _ Try.underlying33 rfl (infDh _ (partP_ok C l1 k).s6 _ _) ?_; simp only [Act.put, List.setIfInBounds_toArray, List.set_cons_succ, List.set_cons_zero]
          go_big_quiet_step (exact quietK (TP.out _ _))
          go_big_quiet_step (fail)
          go_big_quiet_step (fail)
          refine wpQuiet_ld rfl _ _ rfl gw 0 rfl (dcs (partW C l1) vW nilv) (fun w' hw => row_grown HW14.out.all hw) _ Try.underlying33 rfl (infDh _ (partW_ok C l1).s6 _ _) ?_; simp only [Act.put, List.setIfInBounds_toArray, List.set_cons_succ, List.set_cons_zero]
          go_big_quiet_step (exact quietK (TW.out _ _))
          go_big_quiet_step (fail)
          go_big_quiet_step (fail)
          go_big_quiet_step (fail)
          go_big_quiet_step (fail)
          go_big_quiet_step (fail)
          go_big_quiet_step (fail)
          go_big_quiet_step (fail)
          go_big_quiet_step (fail)
          repeat (go_big_quiet_step (exact quietK (wakes_yes _)))
          refine wpQuiet_nil ?_
          rintro wz ⟨nq, hw⟩
          have HKZ := Lib.hid (HK14.out.then (show Kept Nil w14 wz from by rw [hw]; exact kept_grown _ _))
          clear hw
          go_wp2
          go_ret
          exact ⟨rfl, HKZ.out.below (by omega) (fun _ hf => hf.elim)⟩
end Go.Proofs.Ytgkbcfhgodjpaaa
