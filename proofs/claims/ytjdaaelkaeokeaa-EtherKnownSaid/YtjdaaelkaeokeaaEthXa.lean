/- tolllaw04.EtherKnown: the walk. -/
import Derived.Test.YtjdaaelkaeokeaaEthL
import Derived.Test.YtjdaaelkaeokeaaEthI
import Derived.Laws.MakeOwn
import Derived.OwnWalk
namespace Go.Proofs.Ytjdaaelkaeokeaa
open Go.RowKit Go.Sort
set_option linter.unusedVariables false

theorem made_bys (n : Nat) : (madeCells (Value.int .u8 0).cells (n * 1)).toList = bys (List.replicate n 0) := by
  rw [Nat.mul_one]
  apply List.ext_getElem?
  intro i
  by_cases h : i < n
  · simp [madeCells, bys, Value.cells, h, Nat.mod_one]
  · simp [madeCells, bys, Value.cells, h]
theorem wpList_mkB {w : World} {ops : Array Oper} {rest : List Oper} {o : Oper} {a : Act} {Q : Exit → Act → World → Prop} (hg : o.guard = none) (l c : Operand) (hop : o.op = Op.makeSlice 26 l c) (n : Nat) (hn : n ≤ 1000000) (hl : a.eval l = .int .i64 (n : Int)) (hc : a.eval c = .int .i64 (n : Int))
    (hK : ∀ w' b, Hid (Byt w' (some ⟨w.heap.size, 0, none⟩) n n b) → Hid (b.length = n) → Hid (Kept Nil w w') → wpList Try.prog ops Q rest (a.put o.dst (.slice (some ⟨w.heap.size, 0, none⟩) n n)) w') : wpList Try.prog ops Q (o :: rest) a w := by
  obtain ⟨i0, hi, hz0, hz1, hz2⟩ := info_parts Try.infb
  refine wpList_make_full w hg l c 26 hop w.heap.size 5 i0 (.int .u8 0) 1 Try.underlying26 hi hz0 hz1 .i64 .i64 (n : Int) (n : Int) n hl hc rfl rfl (by rw [hz2]; omega) (by unfold maxLen; omega) (Nat.le_refl _) ?_
  intro w' ho hgr
  rw [made_bys] at ho
  obtain ⟨A, c', e, hb, _⟩ := Byt.of_own (n := n) ho
  cases e
  exact hK w' _ hb List.length_replicate ((Kept.refl Nil w).grown hgr (fun k hk => by cases hk))
set_option maxRecDepth 100000 in
set_option maxHeartbeats 4000000 in
theorem kcode_yes (s : ByteArray) (hs : s.size ≤ 100) (w : World) :
    Calls Try.prog 22 #[.string s] w fun e w' => e = .returned (.int .i64 (getM (headB ++ s.data.toList)).2.2) ∧ Kept Nil w w' := by
  obtain ⟨c, W1, hcv, hby, hk1⟩ := text_bytes w (⟨#[2, 0, 0, 0, 0, 1, 2, 0, 0, 0, 0, 2]⟩ ++ s) (by rw [ByteArray.size_append]; show 12 + s.size ≤ 1000; omega)
  have hdl : ((⟨#[2, 0, 0, 0, 0, 1, 2, 0, 0, 0, 0, 2]⟩ : ByteArray) ++ s).data.toList = headB ++ s.data.toList := by simp [headB]
  rw [hdl] at hby
  have hsz : ((⟨#[2, 0, 0, 0, 0, 1, 2, 0, 0, 0, 0, 2]⟩ : ByteArray) ++ s).size = 12 + s.size := by rw [ByteArray.size_append]; rfl
  rw [hsz] at hcv hby
  have HBY := Lib.hid hby
  have HK1 := Lib.hid hk1
  clear hdl hsz hk1 hby
  go_enter Try.func22, Try.ntmps22
  go_wp2_with fail
  refine (eget_yes _ _ _ _ _ HBY.out (by omega)).mono ?_
  rintro e w2 ⟨vt, vb, vr, rfl, hnf, hk⟩
  have hsix := get_six (headB ++ s.data.toList)
  generalize hR : getM (headB ++ s.data.toList) = R at *
  obtain ⟨F, xb, er⟩ := R
  simp only at hnf hsix ⊢
  have HR := Lib.hid hR
  have HNF1 := Lib.hid hnf
  have HSIX := Lib.hid hsix
  have HK2 := Lib.hid (HK1.out.then hk)
  have HFN := Lib.hid (FB.new w2 28 Fr.zero nilv nilv nilv)
  clear hnf hsix hk hR hcv
  go_wp2_with (refine wpList_st rfl _ (.tmp 3) _ rfl _ 0 rfl (fcs F vt vb vr) _ rfl rfl (by rw [fcs_len HSIX.out]; exact infF) 28 _ HFN.out (by rw [fcs_len Fr.zero_six, fcs_len HSIX.out]; omega) HNF1.out.ones ?_; intro w3 hb3 hk3 hz3)
  have hk23 := ((Kept.refl Nil w2).alloc (.cells (fcs Fr.zero nilv nilv nilv).toArray 28)).fresh hk3 (fun i hi => by cases hi; exact Nat.le_refl _)
  go_ret
  rw [HR.out]
  exact ⟨rfl, HK2.out.then hk23⟩
/-- Put's error. -/
theorem kput (F : Fr) (e : Int) (vt vb vr : Value) (w : World) (h : FrIn w F vt vb vr) (he : (putM F).2 = e) (n : Nat) (hn : (putM F).1.length = n) :
    Calls Try.prog 11 #[frv F vt vb vr] w fun r w' => ∃ A c, r = .returned (.tuple #[.slice A n c, .int .i64 e]) ∧ Kept Nil w w' := by
  refine (put_yes F vt vb vr w h).mono ?_
  rintro r w' ⟨v, rfl, hm⟩
  obtain ⟨A, c, rfl⟩ := own_form hm.1
  rw [he, hn]
  exact ⟨A, c, rfl, hm.2⟩
theorem frIn_of {w : World} (F : Fr) (vt vb vr : Value) (hk : F.k = 1 ∨ F.k = 2 ∨ F.k = 3 ∨ F.k = 4) (hy : 0 ≤ F.y ∧ F.y ≤ 65535) (h6 : F.six) (ht : ∃ A n c, vt = .slice A n c ∧ Tags w A n c F.t) (hb : ∃ A n c, vb = .slice A n c ∧ Byt w A n c F.b) (hr : ∃ A n c, vr = .slice A n c ∧ Byt w A n c F.r)
    (h1 : F.t.length ≤ 1000) (h2 : F.b.length ≤ 1000000) (h3 : F.r.length ≤ 1000000) : FrIn w F vt vb vr := by
  refine ⟨⟨h6.d, h6.s, ?_, ?_, ?_, h6.l, h6.o⟩, ht, hb, hr, h1, h2, h3⟩
  · obtain ⟨A, n, c, _, h⟩ := ht; exact h.2
  · rcases hk with h | h | h | h <;> rw [h] <;> omega
  · omega
theorem nilT (w : World) : ∃ A n c, nilv = .slice A n c ∧ Tags w A n c [] := ⟨none, 0, 0, rfl, Tags.nil w⟩
theorem nilB (w : World) : ∃ A n c, nilv = .slice A n c ∧ Byt w A n c [] := ⟨none, 0, 0, rfl, Byt.none w⟩
theorem p_two (b : List UInt8) (h : b.length = 65526) : (putM ⟨z6, z6, [], 1, 2048, z3, z3, b, []⟩).2 = 3 ∧ (putM ⟨z6, z6, [], 1, 2048, z3, z3, b, []⟩).1.length = 0 := by
  have e : putM ⟨z6, z6, [], 1, 2048, z3, z3, b, []⟩ = ([], 3) := by
    have hc : carryM ⟨z6, z6, [], 1, 2048, z3, z3, b, []⟩ = true := by simp [carryM, standM]
    have ha : aheadM ⟨z6, z6, [], 1, 2048, z3, z3, b, []⟩ = z6 ++ z6 ++ [8, 0] := by
      unfold aheadM headM
      rw [if_pos rfl]
      simp only [bytTs, List.map_nil, List.flatten_nil, List.append_nil]
      rfl
    unfold putM
    rw [hc, ha, if_neg (show ¬ ((mayL [] && true) = false) by decide), if_pos (by simp only [h]; decide)]
  rw [e]
  exact ⟨rfl, rfl⟩
theorem p_two' (b : List UInt8) (h : b.length = 65525) : (putM ⟨z6, z6, [], 1, 2048, z3, z3, b, []⟩).2 = 0 ∧ (putM ⟨z6, z6, [], 1, 2048, z3, z3, b, []⟩).1.length = 65539 := by
  have e : putM ⟨z6, z6, [], 1, 2048, z3, z3, b, []⟩ = (z6 ++ z6 ++ [8, 0] ++ b ++ [], 0) := by
    have hc : carryM ⟨z6, z6, [], 1, 2048, z3, z3, b, []⟩ = true := by simp [carryM, standM]
    have ha : aheadM ⟨z6, z6, [], 1, 2048, z3, z3, b, []⟩ = z6 ++ z6 ++ [8, 0] := by
      unfold aheadM headM
      rw [if_pos rfl]
      simp only [bytTs, List.map_nil, List.flatten_nil, List.append_nil]
      rfl
    unfold putM
    rw [hc, ha, if_neg (show ¬ ((mayL [] && true) = false) by decide), if_neg (by simp only [h]; decide)]
  rw [e]
  refine ⟨rfl, ?_⟩
  show (z6 ++ z6 ++ [8, 0] ++ b ++ []).length = 65539
  rw [List.length_append, List.length_append, h]
  rfl
theorem p_llc (b : List UInt8) (h : b.length = 1498) : (putM ⟨z6, z6, [], 2, 0, z3, z3, b, []⟩).2 = 1 ∧ (putM ⟨z6, z6, [], 2, 0, z3, z3, b, []⟩).1.length = 0 := by
  have hc : carryM ⟨z6, z6, [], 2, 0, z3, z3, b, []⟩ = false := by simp [carryM, h]
  have e : putM ⟨z6, z6, [], 2, 0, z3, z3, b, []⟩ = ([], 1) := by unfold putM; rw [hc, Bool.and_false, if_pos rfl]
  rw [e]
  exact ⟨rfl, rfl⟩
theorem p_llc' (b : List UInt8) (h : b.length = 1497) : (putM ⟨z6, z6, [], 2, 0, z3, z3, b, []⟩).2 = 0 ∧ (putM ⟨z6, z6, [], 2, 0, z3, z3, b, []⟩).1.length = 1514 := by
  have hc : carryM ⟨z6, z6, [], 2, 0, z3, z3, b, []⟩ = true := by simp [carryM, h, z3, snapL]
  have ha : aheadM ⟨z6, z6, [], 2, 0, z3, z3, b, []⟩ = z6 ++ z6 ++ (twoM 1500 ++ z3) := by
    unfold aheadM headM
    rw [if_neg (show ¬ ((2 : Int) = 1) by decide), if_pos rfl]
    simp only [h, bytTs, List.map_nil, List.flatten_nil, List.append_nil]
  have e : putM ⟨z6, z6, [], 2, 0, z3, z3, b, []⟩ = (z6 ++ z6 ++ (twoM 1500 ++ z3) ++ b ++ [], 0) := by
    unfold putM
    rw [hc, ha, if_neg (show ¬ ((mayL [] && true) = false) by decide), if_neg (by simp only [h]; decide)]
  rw [e]
  refine ⟨rfl, ?_⟩
  show (z6 ++ z6 ++ (twoM 1500 ++ z3) ++ b ++ []).length = 1514
  rw [List.length_append, List.length_append, h]
  rfl
theorem p_snap (b : List UInt8) (h : b.length = 1493) : (putM ⟨z6, z6, [], 3, 0, snapL, z3, b, []⟩).2 = 1 ∧ (putM ⟨z6, z6, [], 3, 0, snapL, z3, b, []⟩).1.length = 0 := by
  have hc : carryM ⟨z6, z6, [], 3, 0, snapL, z3, b, []⟩ = false := by simp [carryM, h]
  have e : putM ⟨z6, z6, [], 3, 0, snapL, z3, b, []⟩ = ([], 1) := by unfold putM; rw [hc, Bool.and_false, if_pos rfl]
  rw [e]
  exact ⟨rfl, rfl⟩
theorem g_short (b : List UInt8) (h : b.length = 11) : getM b = (Fr.zero, [], 4) := by unfold getM; rw [if_neg (by omega), if_pos (by omega)]
theorem g_long (b : List UInt8) (h : b.length = 65536) : getM b = (Fr.zero, [], 3) := by unfold getM; rw [if_pos (by omega)]

theorem kc0 (w : World) : Calls Try.prog 22 #[.string ⟨#[]⟩] w fun e w' => e = .returned (.int .i64 4) ∧ Kept Nil w w' := by
  have h := kcode_yes ⟨#[]⟩ (by decide) w
  rwa [show (getM (headB ++ (⟨#[]⟩ : ByteArray).data.toList)).2.2 = 4 by kernel_rfl] at h
theorem kc1 (w : World) : Calls Try.prog 22 #[.string ⟨#[8]⟩] w fun e w' => e = .returned (.int .i64 4) ∧ Kept Nil w w' := by
  have h := kcode_yes ⟨#[8]⟩ (by decide) w
  rwa [show (getM (headB ++ (⟨#[8]⟩ : ByteArray).data.toList)).2.2 = 4 by kernel_rfl] at h
theorem kc2 (w : World) : Calls Try.prog 22 #[.string ⟨#[129, 0, 0]⟩] w fun e w' => e = .returned (.int .i64 4) ∧ Kept Nil w w' := by
  have h := kcode_yes ⟨#[129, 0, 0]⟩ (by decide) w
  rwa [show (getM (headB ++ (⟨#[129, 0, 0]⟩ : ByteArray).data.toList)).2.2 = 4 by kernel_rfl] at h
theorem kc3 (w : World) : Calls Try.prog 22 #[.string ⟨#[129, 0, 0, 5]⟩] w fun e w' => e = .returned (.int .i64 4) ∧ Kept Nil w w' := by
  have h := kcode_yes ⟨#[129, 0, 0, 5]⟩ (by decide) w
  rwa [show (getM (headB ++ (⟨#[129, 0, 0, 5]⟩ : ByteArray).data.toList)).2.2 = 4 by kernel_rfl] at h
theorem kc4 (w : World) : Calls Try.prog 22 #[.string ⟨#[5, 221]⟩] w fun e w' => e = .returned (.int .i64 5) ∧ Kept Nil w w' := by
  have h := kcode_yes ⟨#[5, 221]⟩ (by decide) w
  rwa [show (getM (headB ++ (⟨#[5, 221]⟩ : ByteArray).data.toList)).2.2 = 5 by kernel_rfl] at h
theorem kc5 (w : World) : Calls Try.prog 22 #[.string ⟨#[5, 255]⟩] w fun e w' => e = .returned (.int .i64 5) ∧ Kept Nil w w' := by
  have h := kcode_yes ⟨#[5, 255]⟩ (by decide) w
  rwa [show (getM (headB ++ (⟨#[5, 255]⟩ : ByteArray).data.toList)).2.2 = 5 by kernel_rfl] at h
theorem kc6 (w : World) : Calls Try.prog 22 #[.string ⟨#[5, 220]⟩] w fun e w' => e = .returned (.int .i64 4) ∧ Kept Nil w w' := by
  have h := kcode_yes ⟨#[5, 220]⟩ (by decide) w
  rwa [show (getM (headB ++ (⟨#[5, 220]⟩ : ByteArray).data.toList)).2.2 = 4 by kernel_rfl] at h
theorem kc7 (w : World) : Calls Try.prog 22 #[.string ⟨#[0, 0]⟩] w fun e w' => e = .returned (.int .i64 5) ∧ Kept Nil w w' := by
  have h := kcode_yes ⟨#[0, 0]⟩ (by decide) w
  rwa [show (getM (headB ++ (⟨#[0, 0]⟩ : ByteArray).data.toList)).2.2 = 5 by kernel_rfl] at h
theorem kc8 (w : World) : Calls Try.prog 22 #[.string ⟨#[0, 2, 66, 66]⟩] w fun e w' => e = .returned (.int .i64 5) ∧ Kept Nil w w' := by
  have h := kcode_yes ⟨#[0, 2, 66, 66]⟩ (by decide) w
  rwa [show (getM (headB ++ (⟨#[0, 2, 66, 66]⟩ : ByteArray).data.toList)).2.2 = 5 by kernel_rfl] at h
theorem kc9 (w : World) : Calls Try.prog 22 #[.string ⟨#[0, 7, 170, 170, 3, 0, 0, 0, 8]⟩] w fun e w' => e = .returned (.int .i64 5) ∧ Kept Nil w w' := by
  have h := kcode_yes ⟨#[0, 7, 170, 170, 3, 0, 0, 0, 8]⟩ (by decide) w
  rwa [show (getM (headB ++ (⟨#[0, 7, 170, 170, 3, 0, 0, 0, 8]⟩ : ByteArray).data.toList)).2.2 = 5 by kernel_rfl] at h
theorem kc10 (w : World) : Calls Try.prog 22 #[.string ⟨#[6, 0]⟩] w fun e w' => e = .returned (.int .i64 0) ∧ Kept Nil w w' := by
  have h := kcode_yes ⟨#[6, 0]⟩ (by decide) w
  rwa [show (getM (headB ++ (⟨#[6, 0]⟩ : ByteArray).data.toList)).2.2 = 0 by kernel_rfl] at h
theorem kc11 (w : World) : Calls Try.prog 22 #[.string ⟨#[129, 0, 0, 1, 129, 0, 0, 2, 129, 0]⟩] w fun e w' => e = .returned (.int .i64 0) ∧ Kept Nil w w' := by
  have h := kcode_yes ⟨#[129, 0, 0, 1, 129, 0, 0, 2, 129, 0]⟩ (by decide) w
  rwa [show (getM (headB ++ (⟨#[129, 0, 0, 1, 129, 0, 0, 2, 129, 0]⟩ : ByteArray).data.toList)).2.2 = 0 by kernel_rfl] at h
end Go.Proofs.Ytjdaaelkaeokeaa
