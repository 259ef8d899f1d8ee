/- Texts that belong together, one behind the other: EthS, EthK. Conditions: those of each. -/
import Derived.Test.YtddpdopccejmbaaMg19
import Derived.Test.YtddpdopccejmbaaMg17
import Derived.Lib.ConvBytes
import Derived.Lib.AtoiErrMem
import Derived.Lib.Strings
/- tolllaw04: Same, of two frames that are the same. -/
namespace Go.Proofs.Ytddpdopccejmbaa
open Go.RowKit Go.Sort
set_option linter.unusedVariables false

/-- Two slices of tags and bytes read as a frame says. -/
structure FrRd (w : World) (f : Fr) (vt vb vr : Value) : Prop where
  six : f.six
  t : ∃ A n c, vt = .slice A n c ∧ Tags w A n c f.t
  b : ∃ A n c, vb = .slice A n c ∧ Byt w A n c f.b
  r : ∃ A n c, vr = .slice A n c ∧ Byt w A n c f.r
  tn : f.t.length ≤ 1000
theorem FrRd.kept {w w' : World} {f : Fr} {vt vb vr : Value} (h : FrRd w f vt vb vr) (k : Kept Nil w w') : FrRd w' f vt vb vr := by
  obtain ⟨h0, ⟨A, n, c, e, ht⟩, ⟨A1, n1, c1, e1, hb⟩, ⟨A2, n2, c2, e2, hr⟩, h1⟩ := h
  exact ⟨h0, ⟨A, n, c, e, ht.kept k (fun _ _ hf => hf)⟩, ⟨A1, n1, c1, e1, hb.kept k (fun _ _ hf => hf)⟩, ⟨A2, n2, c2, e2, hr.kept k (fun _ _ hf => hf)⟩, h1⟩
end Go.Proofs.Ytddpdopccejmbaa
/- tolllaw04: what tells and EtherKnown read out of texts. -/
namespace Go.Proofs.Ytddpdopccejmbaa
open Go.RowKit Go.Sort
set_option linter.unusedVariables false

def headB : List UInt8 := [2, 0, 0, 0, 0, 1, 2, 0, 0, 0, 0, 2]
theorem zero_cells : (fcs Fr.zero nilv nilv nilv).toArray = #[.int .u8 0, .int .u8 0, .int .u8 0, .int .u8 0, .int .u8 0, .int .u8 0, .int .u8 0, .int .u8 0, .int .u8 0, .int .u8 0, .int .u8 0, .int .u8 0, .slice none 0 0, .int .i64 0, .int .i64 0, .int .u8 0, .int .u8 0, .int .u8 0, .int .u8 0, .int .u8 0, .int .u8 0, .slice none 0 0, .slice none 0 0] := rfl
/-- A text made bytes. -/
theorem text_bytes (w : World) (s : ByteArray) (hs : s.size ≤ 1000) : ∃ c W1, (convert 9 26 (.string s)).run Try.prog w = .ok (.slice (some ⟨w.heap.size, 0, none⟩) s.size c) W1 ∧ Byt W1 (some ⟨w.heap.size, 0, none⟩) s.size c s.data.toList ∧ Kept Nil w W1 := by
  have hcv := Lib.run_convert_string_bytes (P := Try.prog) w 9 26 5 s (u := .string) Try.underlying9 Try.underlying26 Try.underlying5
  have hl : s.data.toList.length = s.size := by rw [Lib.size_eq]
  refine ⟨_, _, hcv, ⟨hl, grownCap_ge _ _ _ _, ?_, fun _ => ⟨w.heap.size, 0, rfl, fun i hi => ?_⟩⟩, Kept.of_below (Lib.bytesWorld_below w 5 s)⟩
  · have := grownCap_le_maxLen w s.size 0 5 (by unfold maxLen; omega)
    unfold maxLen at this
    omega
  · have := Lib.bytesWorld_cell w 5 s i (by rw [← hl]; exact hi)
    rw [Nat.zero_add, this]
    simp [List.getD, List.getElem?_eq_getElem hi]
set_option maxRecDepth 100000 in
set_option maxHeartbeats 4000000 in
theorem tget_yes (s : ByteArray) (hs : s.size ≤ 100) (w : World) :
    Calls Try.prog 40 #[.string s] w fun e w' => ∃ vt vb vr, e = .returned (frv (getM (headB ++ s.data.toList)).1 vt vb vr) ∧ NewF w w' (getM (headB ++ s.data.toList)).1 vt vb vr ∧ Kept Nil w w' := by
  obtain ⟨c, W1, hcv, hby, hk1⟩ := text_bytes (w.alloc (.cells (fcs Fr.zero nilv nilv nilv).toArray 28)) (⟨#[2, 0, 0, 0, 0, 1, 2, 0, 0, 0, 0, 2]⟩ ++ s) (by rw [ByteArray.size_append]; show 12 + s.size ≤ 1000; omega)
  have hdl : ((⟨#[2, 0, 0, 0, 0, 1, 2, 0, 0, 0, 0, 2]⟩ : ByteArray) ++ s).data.toList = headB ++ s.data.toList := by simp [headB]
  rw [hdl] at hby
  have hsz : ((⟨#[2, 0, 0, 0, 0, 1, 2, 0, 0, 0, 0, 2]⟩ : ByteArray) ++ s).size = 12 + s.size := by rw [ByteArray.size_append]; rfl
  rw [hsz, zero_cells, World.size_alloc] at hcv
  rw [hsz, World.size_alloc] at hby
  have hk0 : Kept Nil w (w.alloc (.cells (fcs Fr.zero nilv nilv nilv).toArray 28)) := (Kept.refl Nil w).alloc _
  have HBY := Lib.hid hby
  have HK1 := Lib.hid (hk0.then hk1)
  have HF21 := Lib.hid ((FB.new w 28 Fr.zero nilv nilv nilv).kept hk1 (fun hf => hf))
  have hb := hby.1
  have HLN := Lib.hid hb
  clear hdl hsz hk0 hk1 hby hb
  go_enter Try.func40, Try.ntmps40
  go_wp2_with fail
  refine (eget_yes _ _ _ _ _ HBY.out (by omega)).mono ?_
  rintro e w2 ⟨vt, vb, vr, rfl, hnf, hk⟩
  have hsix := get_six (headB ++ s.data.toList)
  have hnone := get_none (headB ++ s.data.toList)
  generalize hR : getM (headB ++ s.data.toList) = R at *
  obtain ⟨F, xb, er⟩ := R
  simp only at hnf hsix hnone ⊢
  have HR := Lib.hid hR
  have HNF := Lib.hid (hnf.base (w := w) HK1.out.size)
  have HNF1 := Lib.hid hnf
  have HSIX := Lib.hid hsix
  have HNONE := Lib.hid hnone
  have HF22 := Lib.hid (HF21.out.kept hk (fun hf => hf))
  have HL1 := Lib.hid (show w.heap.size < W1.heap.size from HF21.out.lt)
  have HK2 := Lib.hid (HK1.out.then hk)
  have HFN := Lib.hid (FB.new w2 28 Fr.zero nilv nilv nilv)
  clear hnf hsix hnone hk hR HF21 HBY hcv
  by_cases he : er = 0
  · subst he
    go_wp2_with (first
      | (refine wpList_st rfl _ (.tmp 3) _ rfl _ 0 rfl (fcs F vt vb vr) _ rfl rfl (by rw [fcs_len HSIX.out]; exact infF) 28 _ HFN.out (by rw [fcs_len Fr.zero_six, fcs_len HSIX.out]; omega) HNF1.out.ones ?_; intro w3 hb3 hk3 hz3; have HF33 := Lib.hid (FB.of_all (f' := F) Fr.zero_six HSIX.out hb3); have hk23 := ((Kept.refl Nil w2).alloc (.cells (fcs Fr.zero nilv nilv nilv).toArray 28)).fresh hk3 (fun i hi => by cases hi; exact Nat.le_refl _); have HK23 := Lib.hid hk23; have HF23 := Lib.hid (HF22.out.kept hk23 (fun hf => hf)); clear hk23 hk3 hz3 hb3)
      | (refine wpList_ld rfl _ (.tmp 3) rfl _ 0 rfl _ HF33.out.all _ Try.underlying28 rfl (by rw [fcs_len HSIX.out]; exact infF) ?_)
      | (refine wpList_st rfl _ (.tmp 2) _ rfl _ 0 rfl (fcs F vt vb vr) _ rfl rfl (by rw [fcs_len HSIX.out]; exact infF) 28 _ HF23.out (by rw [fcs_len Fr.zero_six, fcs_len HSIX.out]; omega) HNF1.out.ones ?_; intro w4 hb4 hk4 hz4))
    have HF24 := Lib.hid (FB.of_all (f' := F) Fr.zero_six HSIX.out hb4)
    refine bodyPost_ret (res_cell0 Try.results40 rfl HF24.out.all Try.underlying28 rfl (by rw [fcs_len HSIX.out]; exact infF)) rfl ?_
    rw [HR.out]
    exact ⟨vt, vb, vr, rfl, ((HNF1.out.kept HK23.out).far hk4 HL1.out).base HK1.out.size, (HK2.out.then HK23.out).fresh hk4 (fun i hi => by cases hi; exact Nat.le_refl _)⟩
  · go_wp2_with (first
      | (refine wpList_st rfl _ (.tmp 3) _ rfl _ 0 rfl (fcs F vt vb vr) _ rfl rfl (by rw [fcs_len HSIX.out]; exact infF) 28 _ HFN.out (by rw [fcs_len Fr.zero_six, fcs_len HSIX.out]; omega) HNF1.out.ones ?_; intro w3 hb3 hk3 hz3; have hk23 := ((Kept.refl Nil w2).alloc (.cells (fcs Fr.zero nilv nilv nilv).toArray 28)).fresh hk3 (fun i hi => by cases hi; exact Nat.le_refl _); have HK23 := Lib.hid hk23; have HF23 := Lib.hid (HF22.out.kept hk23 (fun hf => hf)); clear hk23 hk3 hz3 hb3)
      | (refine wpList_st rfl _ (.tmp 2) _ rfl _ 0 rfl (fcs Fr.zero nilv nilv nilv) _ rfl rfl infF 28 _ HF23.out (by rw [fcs_len Fr.zero_six]; omega) (fcs_one rfl rfl rfl) ?_; intro w4 hb4 hk4 hz4))
    have HF24 := Lib.hid (FB.of_all (f' := Fr.zero) Fr.zero_six Fr.zero_six hb4)
    refine bodyPost_ret (res_cell0 Try.results40 rfl HF24.out.all Try.underlying28 rfl infF) rfl ?_
    rw [HR.out]
    simp only
    rw [(HNONE.out he).1]
    exact ⟨nilv, nilv, nilv, rfl, NewF.zero _ _, (HK2.out.then HK23.out).fresh hk4 (fun i hi => by cases hi; exact Nat.le_refl _)⟩
end Go.Proofs.Ytddpdopccejmbaa
