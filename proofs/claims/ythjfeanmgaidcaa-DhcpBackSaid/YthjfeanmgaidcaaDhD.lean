/- Package dhcp: contract of takeHead. -/
import Derived.Test.YthjfeanmgaidcaaMg12
import Derived.Test.YthjfeanmgaidcaaMg13
namespace Go.Proofs.Ythjfeanmgaidcaa
open Go.RowKit Go.Sort
set_option linter.unusedVariables false

/-- A cutter that has taken K of l's bytes, or has failed; where l is long enough, it hasn't. -/
structure TkS (l : List UInt8) (K : Nat) (s : Cst) : Prop where
  lis : s.l = l
  ok : 240 ≤ l.length → s.er = 0 ∧ s.k = K
  er : s.er = 4 ∨ (s.er = 0 ∧ s.k = K ∧ K ≤ l.length)
theorem TkS.start (l : List UInt8) : TkS l 0 ⟨l, 0, 0⟩ := ⟨rfl, fun _ => ⟨rfl, rfl⟩, .inr ⟨rfl, rfl, Nat.zero_le _⟩⟩
theorem TkS.next {l : List UInt8} {K : Nat} {s : Cst} (h : TkS l K s) (n : Nat) (hK : K + n ≤ 240) : TkS l (K + n) (takeM s (n : Int)).2 ∧ (240 ≤ l.length → (takeM s (n : Int)).1 = (l.drop K).take n) := by
  obtain ⟨b, k, er⟩ := s
  obtain ⟨rfl, h1, h2⟩ := h
  simp only at h1 h2
  rcases h2 with rfl | ⟨rfl, rfl, hk⟩
  · rw [takeM_err b k 4 (by decide)]
    exact ⟨⟨rfl, fun h => absurd (h1 h).1 (by simp), .inl rfl⟩, fun h => absurd (h1 h).1 (by simp)⟩
  · rcases Nat.lt_or_ge b.length (k + n) with h | h
    · rw [takeM_short b k n hk h]
      exact ⟨⟨rfl, fun h' => absurd (show 240 ≤ b.length from h') (by omega), .inl rfl⟩, fun h' => absurd (show 240 ≤ b.length from h') (by omega)⟩
    · rw [takeM_ok b k n h]
      exact ⟨⟨rfl, fun _ => ⟨rfl, rfl⟩, .inr ⟨rfl, rfl, h⟩⟩, fun _ => rfl⟩
theorem TkS.done {l : List UInt8} {s : Cst} (h : TkS l 240 s) (hl : l.length < 240) : s.er = 4 := by
  rcases h.er with h | ⟨_, _, h⟩
  · exact h
  · omega
/-- What one call takes. -/
theorem tk_byte {l : List UInt8} {K : Nat} {s : Cst} (h : TkS l K s) (hK : K + 1 ≤ 240) : ∃ (x : UInt8) (s' : Cst), numM (takeM s 1).1 = x.toNat ∧ (takeM s 1).2 = s' ∧ TkS l (K + 1) s' ∧ (240 ≤ l.length → x = l.getD K 0) := by
  obtain ⟨h1, h2⟩ := h.next 1 hK
  have hl := takeM_len2 s 1
  have e : ((1 : Nat) : Int) = 1 := rfl
  rw [e] at h1 h2
  refine ⟨(takeM s 1).1.headD 0, _, ?_, rfl, h1, fun h => ?_⟩
  · match (takeM s 1).1, hl with
    | [], _ => rfl
    | [a], _ => simp [numM]
  · rw [h2 h]
    have : (l.drop K).take 1 = [l.getD K 0] := by
      rw [List.drop_eq_getElem_cons (show K < l.length by omega), List.take_succ_cons, List.take_zero]
      simp [List.getD, List.getElem?_eq_getElem (show K < l.length by omega)]
    rw [this]
    rfl
theorem tk_num {l : List UInt8} {K : Nat} {s : Cst} (h : TkS l K s) (n : Nat) (i : Int) (hi : i = (n : Int)) (hK : K + n ≤ 240) : ∃ (x : Nat) (s' : Cst), numM (takeM s i).1 = x ∧ (takeM s i).2 = s' ∧ TkS l (K + n) s' ∧ x < 256 ^ n ∧ (240 ≤ l.length → x = numM ((l.drop K).take n)) := by
  subst hi
  obtain ⟨h1, h2⟩ := h.next n hK
  have hl := takeM_len2 s (n : Int)
  exact ⟨_, _, rfl, rfl, h1, numD_le (by simpa using hl), fun h => by rw [h2 h]⟩
theorem tk_mac {l : List UInt8} {K : Nat} {s : Cst} (h : TkS l K s) (hK : K + 6 ≤ 240) : ∃ (x : List UInt8) (s' : Cst), macM (takeM s 6).1 = x ∧ (takeM s 6).2 = s' ∧ TkS l (K + 6) s' ∧ x.length = 6 ∧ (240 ≤ l.length → x = (l.drop K).take 6) := by
  obtain ⟨h1, h2⟩ := h.next 6 hK
  have hl := takeM_len2 s 6
  have e : ((6 : Nat) : Int) = 6 := rfl
  rw [e] at h1 h2
  refine ⟨_, _, rfl, rfl, h1, macM_len _ hl, fun h => ?_⟩
  rw [h2 h]
  unfold macM
  rw [show ((l.drop K).take 6).length = 6 by simp; omega]
  simp
/-- A part of a message laid over from its beginning on. -/
def lap (s p : List UInt8) : List UInt8 := s ++ p.drop s.length
theorem lap_len (s p : List UInt8) (h : s.length ≤ p.length) : (lap s p).length = p.length := by simp [lap]; omega
theorem lap_full (s p : List UInt8) (h : s.length = p.length) : lap s p = s := by simp [lap, h]
theorem spl_part (a b : List Value) (l s : List UInt8) (n : Nat) (ha : a.length = n) (h : s.length ≤ l.length) : (a ++ (bys l ++ b)).take n ++ bys s ++ (a ++ (bys l ++ b)).drop (n + (bys s).length) = a ++ (bys (lap s l) ++ b) := by
  subst ha
  rw [List.take_left, ← List.drop_drop, List.drop_left, List.drop_append_of_le_length (by rw [bys_len, bys_len]; exact h)]
  simp only [lap, bys, List.map_append, List.map_drop, List.append_assoc, List.length_map]
section
variable {h : Dh} {vo vb : Value} {w : World} {g : Nat} {T : TypeId}
theorem DB.cp_pd (s : List UInt8) (hl : s.length ≤ 10) (hs : h.six) (b : Blo w g T ((dcs h vo vb).take 15 ++ bys s ++ (dcs h vo vb).drop (15 + (bys s).length)).toArray) : DB w g T { h with pd := lap s h.pd } vo vb := by
  have := spl_part (dns h ++ bys h.st) (bys h.sv ++ (bys h.fi ++ [vo, vb])) h.pd s 15 (by rw [List.length_append, bys_len, hs.st]; rfl) (by rw [hs.pd]; exact hl)
  unfold dcs at b
  rw [show dns h ++ (bys h.st ++ (bys h.pd ++ (bys h.sv ++ (bys h.fi ++ [vo, vb])))) = (dns h ++ bys h.st) ++ (bys h.pd ++ (bys h.sv ++ (bys h.fi ++ [vo, vb]))) from by simp, this] at b
  simp only [List.append_assoc] at b
  exact b
theorem DB.cp_sv (s : List UInt8) (hl : s.length ≤ 64) (hs : h.six) (b : Blo w g T ((dcs h vo vb).take 25 ++ bys s ++ (dcs h vo vb).drop (25 + (bys s).length)).toArray) : DB w g T { h with sv := lap s h.sv } vo vb := by
  have := spl_part (dns h ++ bys h.st ++ bys h.pd) (bys h.fi ++ [vo, vb]) h.sv s 25 (by rw [List.length_append, List.length_append, bys_len, bys_len, hs.st, hs.pd]; rfl) (by rw [hs.sv]; exact hl)
  unfold dcs at b
  rw [show dns h ++ (bys h.st ++ (bys h.pd ++ (bys h.sv ++ (bys h.fi ++ [vo, vb])))) = (dns h ++ bys h.st ++ bys h.pd) ++ (bys h.sv ++ (bys h.fi ++ [vo, vb])) from by simp, this] at b
  simp only [List.append_assoc] at b
  exact b
theorem DB.cp_fi (s : List UInt8) (hl : s.length ≤ 128) (hs : h.six) (b : Blo w g T ((dcs h vo vb).take 89 ++ bys s ++ (dcs h vo vb).drop (89 + (bys s).length)).toArray) : DB w g T { h with fi := lap s h.fi } vo vb := by
  have := spl_part (dns h ++ bys h.st ++ bys h.pd ++ bys h.sv) [vo, vb] h.fi s 89 (by rw [List.length_append, List.length_append, List.length_append, bys_len, bys_len, bys_len, hs.st, hs.pd, hs.sv]; rfl) (by rw [hs.fi]; exact hl)
  unfold dcs at b
  rw [show dns h ++ (bys h.st ++ (bys h.pd ++ (bys h.sv ++ (bys h.fi ++ [vo, vb])))) = (dns h ++ bys h.st ++ bys h.pd ++ bys h.sv) ++ (bys h.fi ++ [vo, vb]) from by simp, this] at b
  simp only [List.append_assoc] at b
  exact b
end
theorem inf1 (x : IntKind) : True := trivial
theorem infU8 : (Try.prog.info? 5).map (·.size) = some 1 := by kernel_rfl
theorem infU16 : (Try.prog.info? 23).map (·.size) = some 1 := by kernel_rfl
theorem infU32 : (Try.prog.info? 22).map (·.size) = some 1 := by kernel_rfl
theorem infIP : (Try.prog.info? 24).map (·.size) = some 1 := by kernel_rfl
theorem infMac (s : List UInt8) (h : s.length = 6) : (Try.prog.info? 26).map (·.size) = some (bys s).length := by rw [bys_len, h]; exact infA6
theorem one_int (k : IntKind) (x : Int) : ∀ u ∈ [Value.int k x], u.oneCell' = true := by intro u hu; simp at hu; subst hu; rfl
theorem z_six (op hp : UInt8) (xi se fl ci yo ne re : Nat) : Dh.six ⟨op, hp, xi, se, fl, ci, yo, ne, re, zer 6, zer 10, zer 64, zer 128, [], []⟩ := ⟨rfl, rfl, rfl, rfl⟩

/-- Where a part begins. -/
def ofs (k : Nat) : Nat := match k with | 0 => 34 | 1 => 44 | 2 => 108 | _ => 236
/-- What k parts have left. -/
structure LpS (l : List UInt8) (k : Nat) (s : Cst) (pd sv fi : List UInt8) : Prop where
  t : TkS l (ofs k) s
  lpd : pd.length = 10
  lsv : sv.length = 64
  lfi : fi.length = 128
  vp : 240 ≤ l.length → 1 ≤ k → pd = (l.drop 34).take 10
  vs : 240 ≤ l.length → 2 ≤ k → sv = (l.drop 44).take 64
  vf : 240 ≤ l.length → 3 ≤ k → fi = (l.drop 108).take 128
theorem mrk_num (l : List UInt8) (h : l.length = 4) : numM l = 1669485411 ↔ l = mrk := by
  constructor
  · intro e
    rw [← be_num4 l h, e]
    rfl
  · rintro rfl
    rfl
/-- What takeHead answers. -/
structure HdR (l : List UInt8) (hd : Dh) (s : Cst) : Prop where
  ok : hd.ok
  none : hd.os = [] ∧ hd.bh = []
  is : (l.length < 240 ∧ s.l = l ∧ s.er = 4) ∨ (240 ≤ l.length ∧ wellB l = false ∧ s.l = l ∧ s.er = 5) ∨ (240 ≤ l.length ∧ wellB l = true ∧ s = ⟨l, 240, 0⟩ ∧ hd = headOf l)
theorem fin_bad {l : List UInt8} {s : Cst} {hd : Dh} (h : TkS l 240 s) (hw : 240 ≤ l.length → wellB l = false) : (l.length < 240 ∧ (failM s 5).l = l ∧ (failM s 5).er = 4) ∨ (240 ≤ l.length ∧ wellB l = false ∧ (failM s 5).l = l ∧ (failM s 5).er = 5) ∨ (240 ≤ l.length ∧ wellB l = true ∧ failM s 5 = ⟨l, 240, 0⟩ ∧ hd = headOf l) := by
  rcases Nat.lt_or_ge l.length 240 with hl | hl
  · have := h.done hl
    refine .inl ⟨hl, ?_, ?_⟩ <;> unfold failM <;> rw [if_neg (by rw [this]; decide)]
    · exact h.lis
    · exact this
  · have := h.ok hl
    refine .inr (.inl ⟨hl, hw hl, ?_, ?_⟩) <;> unfold failM <;> rw [if_pos this.1]
    exact h.lis
theorem fin_good {l : List UInt8} {s : Cst} {hd : Dh} (h : TkS l 240 s) (hw : 240 ≤ l.length → wellB l = true) (hh : 240 ≤ l.length → hd = headOf l) : (l.length < 240 ∧ s.l = l ∧ s.er = 4) ∨ (240 ≤ l.length ∧ wellB l = false ∧ s.l = l ∧ s.er = 5) ∨ (240 ≤ l.length ∧ wellB l = true ∧ s = ⟨l, 240, 0⟩ ∧ hd = headOf l) := by
  rcases Nat.lt_or_ge l.length 240 with hl | hl
  · exact .inl ⟨hl, h.lis, h.done hl⟩
  · refine .inr (.inr ⟨hl, hw hl, ?_, hh hl⟩)
    obtain ⟨b, k, er⟩ := s
    obtain ⟨h1, h2, _⟩ := h
    obtain ⟨h3, h4⟩ := h2 hl
    simp only at h1 h3 h4
    rw [h1, h3, h4]
set_option maxRecDepth 100000 in
set_option maxHeartbeats 16000000 in
theorem head_yes (gc : Nat) (A : Option Addr) (n c : Nat) (l : List UInt8) (w : World) (h : Cutr w gc A n c ⟨l, 0, 0⟩) (hn : n ≤ 140737488355328) :
    Calls Try.prog 30 #[.pointer (some ⟨gc, 0, none⟩)] w fun e w' => ∃ hd s, e = .returned (dhv hd nilv nilv) ∧ HdR l hd s ∧ Cutr w' gc A n c s ∧ Kept (One gc) w w' := by
  have HG := Lib.hid h.blo.lt
  have HLA := Lib.hid h.byt.lt
  have HC := Lib.hid h
  have HT0 := Lib.hid (TkS.start l)
  clear h
  go_enter Try.func30, Try.ntmps30
  go_upto_region 1 with (first | (refine wpList_al rfl 33 rfl (dcs Dh.zero nilv nilv) al_dh ?_; intro w1 hb1 hk1 hz1) | fail)
  have HB0 := Lib.hid (show DB w1 w.heap.size 33 Dh.zero nilv nilv from hb1)
  have HC0 := Lib.hid (HC.out.kept hk1 (fun hf => hf) (fun _ _ hf => hf))
  have HK0 := Lib.hid (hk1.nil (F := One gc))
  obtain ⟨g2, hg2⟩ : ∃ g, w.heap.size = g := ⟨_, rfl⟩
  have HG2 := Lib.hid (show gc < g2 by have := HG.out; omega)
  have HW2 := Lib.hid (show w.heap.size ≤ g2 by omega)
  rw [hg2] at HB0 ⊢
  clear hb1 hk1 hz1 hg2 HC
  go_wp2_with (fail)
  refine (Byte_yes gc A n c _ _ HC0.out).mono ?_
  rintro e w2 ⟨rfl, hc, hk⟩
  obtain ⟨op, s1, e1, e2, ht, hv⟩ := tk_byte HT0.out (by omega)
  rw [e2] at hc
  rw [e1]
  have HC2 := Lib.hid hc
  have HT2 := Lib.hid ht
  have HVop := Lib.hid hv
  have HB2 := Lib.hid (HB0.out.kept hk (fun hf => by have := HG2.out; cases hf; omega))
  have HK2 := Lib.hid (HK0.out.same hk)
  clear hc ht hv hk e1 e2 HC0 HT0 HB0 HK0
  go_wp2_with (first | (refine wpList_bd rfl 33 _ rfl #[(0, .int .u8 (op.toNat : Int))] rfl (dhv ⟨op, 0, 0, 0, 0, 0, 0, 0, 0, zer 6, zer 10, zer 64, zer 128, [], []⟩ nilv nilv) (bd_one op) ?_) | (refine wpList_al rfl 33 rfl (dcs Dh.zero nilv nilv) al_dh ?_; intro w3 hb3 hk3 hz3) | (refine wpList_st rfl _ (.tmp 3) _ rfl w2.heap.size 0 rfl (dcs ⟨op, 0, 0, 0, 0, 0, 0, 0, 0, zer 6, zer 10, zer 64, zer 128, [], []⟩ nilv nilv) _ rfl rfl (infDh _ (z_six _ _ _ _ _ _ _ _ _) _ _) 33 (dcs Dh.zero nilv nilv) hb3 (by rw [dcs_len (z_six _ _ _ _ _ _ _ _ _), dcs_len Dh.zero_ok.s6]; decide) (dcs_one rfl rfl) ?_; intro w4 hb4 hk4 hz4; simp only [Act.put]) | fail)
  have hk := hk3.fresh hk4 (fun j hj => by cases hj; exact Nat.le_refl _)
  have HM4 := Lib.hid (DB.of_all (h' := ⟨op, 0, 0, 0, 0, 0, 0, 0, 0, zer 6, zer 10, zer 64, zer 128, [], []⟩) Dh.zero_ok.s6 (z_six _ _ _ _ _ _ _ _ _) hb4)
  have HGM := Lib.hid (show gc < w2.heap.size by have := HB2.out.lt; have := HG2.out; omega)
  have HG2M := Lib.hid (show g2 < w2.heap.size from HB2.out.lt)
  have HWM := Lib.hid (show w.heap.size ≤ w2.heap.size from HK2.out.size)
  have HC4 := Lib.hid (HC2.out.kept hk (fun hf => hf) (fun _ _ hf => hf))
  have HB4 := Lib.hid (HB2.out.kept hk (fun hf => hf))
  have HK4 := Lib.hid (HK2.out.then hk)
  obtain ⟨gm, hgm⟩ : ∃ g, w2.heap.size = g := ⟨_, rfl⟩
  rw [hgm] at HM4 HGM HG2M HWM ⊢
  clear hk hk3 hb3 hz3 hk4 hb4 hz4 hgm HC2 HB2 HK2
  refine (Byte_yes gc A n c _ _ HC4.out).mono ?_
  rintro e w5 ⟨rfl, hc, hk⟩
  obtain ⟨b1, s2, e1, e2, ht, hv⟩ := tk_byte HT2.out (by omega)
  rw [e2] at hc
  rw [e1]
  have HC5 := Lib.hid hc
  have HT5 := Lib.hid ht
  have HVb1 := Lib.hid hv
  have HB5 := Lib.hid (HB4.out.kept hk (fun hf => by have := HG2.out; cases hf; omega))
  have HM5 := Lib.hid (HM4.out.kept hk (fun hf => by have := HGM.out; cases hf; omega))
  have HK5 := Lib.hid (HK4.out.same hk)
  clear hc ht hv hk e1 e2 HC4 HT2 HB4 HK4 HM4
  go_wp2_with (fail)
  refine (Byte_yes gc A n c _ _ HC5.out).mono ?_
  rintro e w6 ⟨rfl, hc, hk⟩
  obtain ⟨b2, s3, e1, e2, ht, hv⟩ := tk_byte HT5.out (by omega)
  rw [e2] at hc
  rw [e1]
  have HC6 := Lib.hid hc
  have HT6 := Lib.hid ht
  have HVb2 := Lib.hid hv
  have HB6 := Lib.hid (HB5.out.kept hk (fun hf => by have := HG2.out; cases hf; omega))
  have HM6 := Lib.hid (HM5.out.kept hk (fun hf => by have := HGM.out; cases hf; omega))
  have HK6 := Lib.hid (HK5.out.same hk)
  clear hc ht hv hk e1 e2 HC5 HT5 HB5 HK5 HM5
  go_wp2_with (fail)
  refine (Byte_yes gc A n c _ _ HC6.out).mono ?_
  rintro e w7 ⟨rfl, hc, hk⟩
  obtain ⟨hp, s4, e1, e2, ht, hv⟩ := tk_byte HT6.out (by omega)
  rw [e2] at hc
  rw [e1]
  have HC7 := Lib.hid hc
  have HT7 := Lib.hid ht
  have HVhp := Lib.hid hv
  have HB7 := Lib.hid (HB6.out.kept hk (fun hf => by have := HG2.out; cases hf; omega))
  have HM7 := Lib.hid (HM6.out.kept hk (fun hf => by have := HGM.out; cases hf; omega))
  have HK7 := Lib.hid (HK6.out.same hk)
  clear hc ht hv hk e1 e2 HC6 HT6 HB6 HK6 HM6
  go_wp2_with (fail)
  refine (Four_yes gc A n c _ _ HC7.out).mono ?_
  rintro e w8 ⟨rfl, hc, hk⟩
  obtain ⟨xi, s5, e1, e2, ht, hb, hv⟩ := tk_num HT7.out 4 4 rfl (by omega)
  rw [e2] at hc
  rw [e1]
  have HC8 := Lib.hid hc
  have HT8 := Lib.hid ht
  have HVxi := Lib.hid hv
  have HLxi := Lib.hid hb
  have HB8 := Lib.hid (HB7.out.kept hk (fun hf => by have := HG2.out; cases hf; omega))
  have HM8 := Lib.hid (HM7.out.kept hk (fun hf => by have := HGM.out; cases hf; omega))
  have HK8 := Lib.hid (HK7.out.same hk)
  clear hc ht hv hk e1 e2 hb HC7 HT7 HB7 HK7 HM7
  go_wp2_with (first | (refine wpList_st rfl _ (.tmp 20) (.tmp 17) rfl gm 1 rfl [.int .u8 (hp.toNat : Int)] _ rfl rfl infU8 33 (dcs ⟨op, 0, 0, 0, 0, 0, 0, 0, 0, zer 6, zer 10, zer 64, zer 128, [], []⟩ nilv nilv) HM8.out (by rw [dcs_len (z_six _ _ _ _ _ _ _ _ _)]; show 1 + 1 ≤ 219; omega) (one_int _ _) ?_; intro w9 hb9 hk9 hz9; have HM9 := Lib.hid (DB.set_n (h := ⟨op, 0, 0, 0, 0, 0, 0, 0, 0, zer 6, zer 10, zer 64, zer 128, [], []⟩) (h' := ⟨op, hp, 0, 0, 0, 0, 0, 0, 0, zer 6, zer 10, zer 64, zer 128, [], []⟩) (n := 1) (x := .int .u8 (hp.toNat : Int)) rfl ⟨rfl, rfl, rfl, rfl⟩ (by decide) hb9); simp only [Act.put]) | (refine wpList_st rfl _ (.tmp 21) (.tmp 19) rfl gm 2 rfl [.int .u32 (xi : Int)] _ rfl rfl infU32 33 (dcs ⟨op, hp, 0, 0, 0, 0, 0, 0, 0, zer 6, zer 10, zer 64, zer 128, [], []⟩ nilv nilv) HM9.out (by rw [dcs_len (z_six _ _ _ _ _ _ _ _ _)]; show 2 + 1 ≤ 219; omega) (one_int _ _) ?_; intro w10 hb10 hk10 hz10; have HM10 := Lib.hid (DB.set_n (h := ⟨op, hp, 0, 0, 0, 0, 0, 0, 0, zer 6, zer 10, zer 64, zer 128, [], []⟩) (h' := ⟨op, hp, xi, 0, 0, 0, 0, 0, 0, zer 6, zer 10, zer 64, zer 128, [], []⟩) (n := 2) (x := .int .u32 (xi : Int)) rfl ⟨rfl, rfl, rfl, rfl⟩ (by decide) hb10); simp only [Act.put]) | fail)
  have hk := hk9.same hk10
  have HC10 := Lib.hid (HC8.out.kept hk (fun hf => by have := HGM.out; cases hf; omega) (fun j hj hf => by have := HLA.out j hj; have := HWM.out; cases hf; omega))
  have HB10 := Lib.hid (HB8.out.kept hk (fun hf => by have := HG2M.out; cases hf; omega))
  have HK10 := Lib.hid (HK8.out.fresh hk (fun j hj => by have := HWM.out; cases hj; omega))
  clear hk hk9 hk10 hb9 hb10 hz9 hz10 HM8 HM9 HC8 HB8 HK8
  refine (Two_yes gc A n c _ _ HC10.out).mono ?_
  rintro e w11 ⟨rfl, hc, hk⟩
  obtain ⟨se, s6, e1, e2, ht, hb, hv⟩ := tk_num HT8.out 2 2 rfl (by omega)
  rw [e2] at hc
  rw [e1]
  have HC11 := Lib.hid hc
  have HT11 := Lib.hid ht
  have HVse := Lib.hid hv
  have HLse := Lib.hid hb
  have HB11 := Lib.hid (HB10.out.kept hk (fun hf => by have := HG2.out; cases hf; omega))
  have HM11 := Lib.hid (HM10.out.kept hk (fun hf => by have := HGM.out; cases hf; omega))
  have HK11 := Lib.hid (HK10.out.same hk)
  clear hc ht hv hk e1 e2 hb HC10 HT8 HB10 HK10 HM10
  go_wp2_with (fail)
  refine (Two_yes gc A n c _ _ HC11.out).mono ?_
  rintro e w12 ⟨rfl, hc, hk⟩
  obtain ⟨fl, s7, e1, e2, ht, hb, hv⟩ := tk_num HT11.out 2 2 rfl (by omega)
  rw [e2] at hc
  rw [e1]
  have HC12 := Lib.hid hc
  have HT12 := Lib.hid ht
  have HVfl := Lib.hid hv
  have HLfl := Lib.hid hb
  have HB12 := Lib.hid (HB11.out.kept hk (fun hf => by have := HG2.out; cases hf; omega))
  have HM12 := Lib.hid (HM11.out.kept hk (fun hf => by have := HGM.out; cases hf; omega))
  have HK12 := Lib.hid (HK11.out.same hk)
  clear hc ht hv hk e1 e2 hb HC11 HT11 HB11 HK11 HM11
  go_wp2_with (first | (refine wpList_st rfl _ (.tmp 26) (.tmp 23) rfl gm 3 rfl [.int .u16 (se : Int)] _ rfl rfl infU16 33 (dcs ⟨op, hp, xi, 0, 0, 0, 0, 0, 0, zer 6, zer 10, zer 64, zer 128, [], []⟩ nilv nilv) HM12.out (by rw [dcs_len (z_six _ _ _ _ _ _ _ _ _)]; show 3 + 1 ≤ 219; omega) (one_int _ _) ?_; intro w13 hb13 hk13 hz13; have HM13 := Lib.hid (DB.set_n (h := ⟨op, hp, xi, 0, 0, 0, 0, 0, 0, zer 6, zer 10, zer 64, zer 128, [], []⟩) (h' := ⟨op, hp, xi, se, 0, 0, 0, 0, 0, zer 6, zer 10, zer 64, zer 128, [], []⟩) (n := 3) (x := .int .u16 (se : Int)) rfl ⟨rfl, rfl, rfl, rfl⟩ (by decide) hb13); simp only [Act.put]) | (refine wpList_st rfl _ (.tmp 27) (.tmp 25) rfl gm 4 rfl [.int .u16 (fl : Int)] _ rfl rfl infU16 33 (dcs ⟨op, hp, xi, se, 0, 0, 0, 0, 0, zer 6, zer 10, zer 64, zer 128, [], []⟩ nilv nilv) HM13.out (by rw [dcs_len (z_six _ _ _ _ _ _ _ _ _)]; show 4 + 1 ≤ 219; omega) (one_int _ _) ?_; intro w14 hb14 hk14 hz14; have HM14 := Lib.hid (DB.set_n (h := ⟨op, hp, xi, se, 0, 0, 0, 0, 0, zer 6, zer 10, zer 64, zer 128, [], []⟩) (h' := ⟨op, hp, xi, se, fl, 0, 0, 0, 0, zer 6, zer 10, zer 64, zer 128, [], []⟩) (n := 4) (x := .int .u16 (fl : Int)) rfl ⟨rfl, rfl, rfl, rfl⟩ (by decide) hb14); simp only [Act.put]) | fail)
  have hk := hk13.same hk14
  have HC14 := Lib.hid (HC12.out.kept hk (fun hf => by have := HGM.out; cases hf; omega) (fun j hj hf => by have := HLA.out j hj; have := HWM.out; cases hf; omega))
  have HB14 := Lib.hid (HB12.out.kept hk (fun hf => by have := HG2M.out; cases hf; omega))
  have HK14 := Lib.hid (HK12.out.fresh hk (fun j hj => by have := HWM.out; cases hj; omega))
  clear hk hk13 hk14 hb13 hb14 hz13 hz14 HM12 HM13 HC12 HB12 HK12
  refine (Four_yes gc A n c _ _ HC14.out).mono ?_
  rintro e w15 ⟨rfl, hc, hk⟩
  obtain ⟨ci, s8, e1, e2, ht, hb, hv⟩ := tk_num HT12.out 4 4 rfl (by omega)
  rw [e2] at hc
  rw [e1]
  have HC15 := Lib.hid hc
  have HT15 := Lib.hid ht
  have HVci := Lib.hid hv
  have HLci := Lib.hid hb
  have HB15 := Lib.hid (HB14.out.kept hk (fun hf => by have := HG2.out; cases hf; omega))
  have HM15 := Lib.hid (HM14.out.kept hk (fun hf => by have := HGM.out; cases hf; omega))
  have HK15 := Lib.hid (HK14.out.same hk)
  clear hc ht hv hk e1 e2 hb HC14 HT12 HB14 HK14 HM14
  go_wp2_with (fail)
  refine (Four_yes gc A n c _ _ HC15.out).mono ?_
  rintro e w16 ⟨rfl, hc, hk⟩
  obtain ⟨yo, s9, e1, e2, ht, hb, hv⟩ := tk_num HT15.out 4 4 rfl (by omega)
  rw [e2] at hc
  rw [e1]
  have HC16 := Lib.hid hc
  have HT16 := Lib.hid ht
  have HVyo := Lib.hid hv
  have HLyo := Lib.hid hb
  have HB16 := Lib.hid (HB15.out.kept hk (fun hf => by have := HG2.out; cases hf; omega))
  have HM16 := Lib.hid (HM15.out.kept hk (fun hf => by have := HGM.out; cases hf; omega))
  have HK16 := Lib.hid (HK15.out.same hk)
  clear hc ht hv hk e1 e2 hb HC15 HT15 HB15 HK15 HM15
  go_wp2_with (first | (refine wpList_st rfl _ (.tmp 32) (.tmp 29) rfl gm 5 rfl [.int .u32 (ci : Int)] _ rfl rfl infIP 33 (dcs ⟨op, hp, xi, se, fl, 0, 0, 0, 0, zer 6, zer 10, zer 64, zer 128, [], []⟩ nilv nilv) HM16.out (by rw [dcs_len (z_six _ _ _ _ _ _ _ _ _)]; show 5 + 1 ≤ 219; omega) (one_int _ _) ?_; intro w17 hb17 hk17 hz17; have HM17 := Lib.hid (DB.set_n (h := ⟨op, hp, xi, se, fl, 0, 0, 0, 0, zer 6, zer 10, zer 64, zer 128, [], []⟩) (h' := ⟨op, hp, xi, se, fl, ci, 0, 0, 0, zer 6, zer 10, zer 64, zer 128, [], []⟩) (n := 5) (x := .int .u32 (ci : Int)) rfl ⟨rfl, rfl, rfl, rfl⟩ (by decide) hb17); simp only [Act.put]) | (refine wpList_st rfl _ (.tmp 33) (.tmp 31) rfl gm 6 rfl [.int .u32 (yo : Int)] _ rfl rfl infIP 33 (dcs ⟨op, hp, xi, se, fl, ci, 0, 0, 0, zer 6, zer 10, zer 64, zer 128, [], []⟩ nilv nilv) HM17.out (by rw [dcs_len (z_six _ _ _ _ _ _ _ _ _)]; show 6 + 1 ≤ 219; omega) (one_int _ _) ?_; intro w18 hb18 hk18 hz18; have HM18 := Lib.hid (DB.set_n (h := ⟨op, hp, xi, se, fl, ci, 0, 0, 0, zer 6, zer 10, zer 64, zer 128, [], []⟩) (h' := ⟨op, hp, xi, se, fl, ci, yo, 0, 0, zer 6, zer 10, zer 64, zer 128, [], []⟩) (n := 6) (x := .int .u32 (yo : Int)) rfl ⟨rfl, rfl, rfl, rfl⟩ (by decide) hb18); simp only [Act.put]) | fail)
  have hk := hk17.same hk18
  have HC18 := Lib.hid (HC16.out.kept hk (fun hf => by have := HGM.out; cases hf; omega) (fun j hj hf => by have := HLA.out j hj; have := HWM.out; cases hf; omega))
  have HB18 := Lib.hid (HB16.out.kept hk (fun hf => by have := HG2M.out; cases hf; omega))
  have HK18 := Lib.hid (HK16.out.fresh hk (fun j hj => by have := HWM.out; cases hj; omega))
  clear hk hk17 hk18 hb17 hb18 hz17 hz18 HM16 HM17 HC16 HB16 HK16
  refine (Four_yes gc A n c _ _ HC18.out).mono ?_
  rintro e w19 ⟨rfl, hc, hk⟩
  obtain ⟨ne, s10, e1, e2, ht, hb, hv⟩ := tk_num HT16.out 4 4 rfl (by omega)
  rw [e2] at hc
  rw [e1]
  have HC19 := Lib.hid hc
  have HT19 := Lib.hid ht
  have HVne := Lib.hid hv
  have HLne := Lib.hid hb
  have HB19 := Lib.hid (HB18.out.kept hk (fun hf => by have := HG2.out; cases hf; omega))
  have HM19 := Lib.hid (HM18.out.kept hk (fun hf => by have := HGM.out; cases hf; omega))
  have HK19 := Lib.hid (HK18.out.same hk)
  clear hc ht hv hk e1 e2 hb HC18 HT16 HB18 HK18 HM18
  go_wp2_with (fail)
  refine (Four_yes gc A n c _ _ HC19.out).mono ?_
  rintro e w20 ⟨rfl, hc, hk⟩
  obtain ⟨re, s11, e1, e2, ht, hb, hv⟩ := tk_num HT19.out 4 4 rfl (by omega)
  rw [e2] at hc
  rw [e1]
  have HC20 := Lib.hid hc
  have HT20 := Lib.hid ht
  have HVre := Lib.hid hv
  have HLre := Lib.hid hb
  have HB20 := Lib.hid (HB19.out.kept hk (fun hf => by have := HG2.out; cases hf; omega))
  have HM20 := Lib.hid (HM19.out.kept hk (fun hf => by have := HGM.out; cases hf; omega))
  have HK20 := Lib.hid (HK19.out.same hk)
  clear hc ht hv hk e1 e2 hb HC19 HT19 HB19 HK19 HM19
  go_wp2_with (first | (refine wpList_st rfl _ (.tmp 38) (.tmp 35) rfl gm 7 rfl [.int .u32 (ne : Int)] _ rfl rfl infIP 33 (dcs ⟨op, hp, xi, se, fl, ci, yo, 0, 0, zer 6, zer 10, zer 64, zer 128, [], []⟩ nilv nilv) HM20.out (by rw [dcs_len (z_six _ _ _ _ _ _ _ _ _)]; show 7 + 1 ≤ 219; omega) (one_int _ _) ?_; intro w21 hb21 hk21 hz21; have HM21 := Lib.hid (DB.set_n (h := ⟨op, hp, xi, se, fl, ci, yo, 0, 0, zer 6, zer 10, zer 64, zer 128, [], []⟩) (h' := ⟨op, hp, xi, se, fl, ci, yo, ne, 0, zer 6, zer 10, zer 64, zer 128, [], []⟩) (n := 7) (x := .int .u32 (ne : Int)) rfl ⟨rfl, rfl, rfl, rfl⟩ (by decide) hb21); simp only [Act.put]) | (refine wpList_st rfl _ (.tmp 39) (.tmp 37) rfl gm 8 rfl [.int .u32 (re : Int)] _ rfl rfl infIP 33 (dcs ⟨op, hp, xi, se, fl, ci, yo, ne, 0, zer 6, zer 10, zer 64, zer 128, [], []⟩ nilv nilv) HM21.out (by rw [dcs_len (z_six _ _ _ _ _ _ _ _ _)]; show 8 + 1 ≤ 219; omega) (one_int _ _) ?_; intro w22 hb22 hk22 hz22; have HM22 := Lib.hid (DB.set_n (h := ⟨op, hp, xi, se, fl, ci, yo, ne, 0, zer 6, zer 10, zer 64, zer 128, [], []⟩) (h' := ⟨op, hp, xi, se, fl, ci, yo, ne, re, zer 6, zer 10, zer 64, zer 128, [], []⟩) (n := 8) (x := .int .u32 (re : Int)) rfl ⟨rfl, rfl, rfl, rfl⟩ (by decide) hb22); simp only [Act.put]) | fail)
  have hk := hk21.same hk22
  have HC22 := Lib.hid (HC20.out.kept hk (fun hf => by have := HGM.out; cases hf; omega) (fun j hj hf => by have := HLA.out j hj; have := HWM.out; cases hf; omega))
  have HB22 := Lib.hid (HB20.out.kept hk (fun hf => by have := HG2M.out; cases hf; omega))
  have HK22 := Lib.hid (HK20.out.fresh hk (fun j hj => by have := HWM.out; cases hj; omega))
  clear hk hk21 hk22 hb21 hb22 hz21 hz22 HM20 HM21 HC20 HB20 HK20
  refine (Mac_yes gc A n c _ _ HC22.out).mono ?_
  rintro e w23 ⟨rfl, hc, hk⟩
  obtain ⟨st, s12, e1, e2, ht, hb, hv⟩ := tk_mac HT20.out (by omega)
  rw [e2] at hc
  rw [e1]
  have HC23 := Lib.hid hc
  have HT23 := Lib.hid ht
  have HVst := Lib.hid hv
  have HLst := Lib.hid hb
  have HB23 := Lib.hid (HB22.out.kept hk (fun hf => by have := HG2.out; cases hf; omega))
  have HM23 := Lib.hid (HM22.out.kept hk (fun hf => by have := HGM.out; cases hf; omega))
  have HK23 := Lib.hid (HK22.out.same hk)
  clear hc ht hv hk e1 e2 hb HC22 HT20 HB22 HK22 HM22
  go_upto_region 8 with (first | (refine wpList_st rfl _ (.tmp 42) (.tmp 41) rfl gm 9 rfl (bys st) _ rfl rfl (infMac st HLst.out) 33 (dcs ⟨op, hp, xi, se, fl, ci, yo, ne, re, zer 6, zer 10, zer 64, zer 128, [], []⟩ nilv nilv) HM23.out (by rw [dcs_len (z_six _ _ _ _ _ _ _ _ _), bys_len, HLst.out]; decide) (bys_one _) ?_; intro w24 hb24 hk24 hz24; simp only [Act.put]) | fail)
  have HM24 := Lib.hid (show DB w24 gm 33 ⟨op, hp, xi, se, fl, ci, yo, ne, re, st, zer 10, zer 64, zer 128, [], []⟩ nilv nilv from DB.set_st st HLst.out (z_six _ _ _ _ _ _ _ _ _) hb24)
  have HC24 := Lib.hid (HC23.out.kept hk24 (fun hf => by have := HGM.out; cases hf; omega) (fun j hj hf => by have := HLA.out j hj; have := HWM.out; cases hf; omega))
  have HB24 := Lib.hid (HB23.out.kept hk24 (fun hf => by have := HG2M.out; cases hf; omega))
  have HK24 := Lib.hid (HK23.out.fresh hk24 (fun j hj => by have := HWM.out; cases hj; omega))
  clear hk24 hb24 hz24 HM23 HC23 HB23 HK23
  refine wp_region_acts Nil [] (fun i vl => (#[.slice (some ⟨gm, 15, none⟩) 10 10, .slice (some ⟨gm, 25, none⟩) 64 64, .slice (some ⟨gm, 89, none⟩) 128 128], 31)) (fun i => .int .i64 3) (fun _ _ _ => True) (fun _ _ => True) 9 (by kernel_rfl) (by kernel_rfl) ⟨fun _ _ _ _ h _ => h, fun _ _ _ _ h => h⟩ trivial ?_
  simp only [List.take_succ_cons, List.take_zero, List.drop_succ_cons, List.drop_zero]
  refine tLex_quiets 6 rfl (by kernel_rfl) ?_
  simp only [List.take_succ_cons, List.take_zero, List.drop_succ_cons, List.drop_zero]
  apply Exists.intro
  refine ⟨?hq1, ?hv1, ?ht1⟩
  case hq1 =>
    intro V hV
    clear hV
    repeat (go_big_quiet_step (fail))
    exact wpQuiet_nil rfl
  case hv1 => exact ⟨trivial, trivial, trivial, trivial, trivial, trivial, trivial⟩
  case ht1 =>
    refine tLex_make (#[.slice (some ⟨gm, 15, none⟩) 10 10, .slice (some ⟨gm, 25, none⟩) 64 64, .slice (some ⟨gm, 89, none⟩) 128 128], 31) rfl rfl rfl rfl (fun u => ?hm1) ?_
    case hm1 => simp [execOp, mkVal, Instr.buildSlice, go_sem]
    intro gs hgs hLs
    simp only [Act.put, mkVal, List.setIfInBounds_toArray, List.set_cons_succ, List.set_cons_zero]
    refine tLex_quiets 2 rfl (by kernel_rfl) ?_
    simp only [List.take_succ_cons, List.take_zero, List.drop_succ_cons, List.drop_zero]
    apply Exists.intro
    refine ⟨?hq2, ?hv2, ?ht2⟩
    case hq2 =>
      intro V hV
      clear hV
      repeat (go_big_quiet_step (fail))
      exact wpQuiet_nil rfl
    case hv2 => exact ⟨rfl, trivial, trivial⟩
    case ht2 =>
      intro wr hs
      have hbs : Blo wr gs 31 #[.slice (some ⟨gm, 15, none⟩) 10 10, .slice (some ⟨gm, 25, none⟩) 64 64, .slice (some ⟨gm, 89, none⟩) 128 128] := (hs.made gs _ (mput_same _ _ _)).2
      have hks : Kept Nil w24 wr := hs.kept
      have hgm : gm < w24.heap.size := HM24.out.lt
      obtain ⟨w25, hw25⟩ : ∃ u, wr = u := ⟨_, rfl⟩
      rw [hw25] at hbs hks ⊢
      have HM25 := Lib.hid (HM24.out.kept hks (fun hf => hf))
      have HC25 := Lib.hid (HC24.out.kept hks (fun hf => hf) (fun _ _ hf => hf))
      have HB25 := Lib.hid (HB24.out.kept hks (fun hf => hf))
      have HK25 := Lib.hid (HK24.out.then hks)
      have HS25 := Lib.hid hbs
      have HGS := Lib.hid (show gm < gs by omega)
      clear hbs hks hgm hs hgs hLs hw25 wr HM24 HC24 HB24 HK24
      go_wp2
      go_loopw [51] (fun i wr => ∃ (k : Nat) (s : Cst) (pd sv fi : List UInt8), k ≤ 3 ∧ i = .int .i64 (k : Int) ∧ LpS l k s pd sv fi ∧ Cutr wr gc A n c s ∧ DB wr gm 33 ⟨op, hp, xi, se, fl, ci, yo, ne, re, st, pd, sv, fi, [], []⟩ nilv nilv ∧ DB wr g2 33 Dh.zero nilv nilv ∧ Blo wr gs 31 #[.slice (some ⟨gm, 15, none⟩) 10 10, .slice (some ⟨gm, 25, none⟩) 64 64, .slice (some ⟨gm, 89, none⟩) 128 128] ∧ Kept (One gc) w wr) (fun i _ => 3 - (intOf i).toNat)
      case atStart => exact ⟨0, _, zer 10, zer 64, zer 128, by omega, rfl, ⟨HT23.out, rfl, rfl, rfl, fun _ h => absurd h (by omega), fun _ h => absurd h (by omega), fun _ h => absurd h (by omega)⟩, HC25.out, HM25.out, HB25.out, HS25.out, HK25.out⟩
      case round =>
        clear HC25 HM25 HB25 HS25 HK25 HT23
        obtain ⟨k, s, pd, sv, fi, hk3, hi, hL, hc, hm, hb, hs, hk⟩ := hrel
        have HC := Lib.hid hc
        have HM := Lib.hid hm
        have HB := Lib.hid hb
        have HS := Lib.hid hs
        have HK := Lib.hid hk
        have HL := Lib.hid hL
        have H6 := Lib.hid (show Dh.six ⟨op, hp, xi, se, fl, ci, yo, ne, re, st, pd, sv, fi, [], []⟩ from ⟨HLst.out, hL.lpd, hL.lsv, hL.lfi⟩)
        clear hc hm hb hs hk hL
        rcases (show k = 0 ∨ k = 1 ∨ k = 2 ∨ k = 3 by omega) with rfl | rfl | rfl | rfl
        · obtain rfl := (show _ = Value.int .i64 0 from hi)
          clear hi
          have q := (show wr.cell? ⟨gs, 0, none⟩ = some (.slice (some ⟨gm, 15, none⟩) 10 10) from HS.out.cell 0)
          go_wp2_with (fail)
          refine (Take_yes gc A n c s 10 _ HC.out (by omega) hn).mono ?_
          rintro e wa ⟨v, rfl, ho, hc, hka⟩
          obtain ⟨ht, hv⟩ := HL.out.t.next 10 (by show 34 + 10 ≤ 240; omega)
          have hpl : (takeM s 10).1.length ≤ 10 := takeM_len2 s 10
          obtain ⟨A', c', rfl, hy, -⟩ := Byt.of_own ho
          rw [show ((10 : Nat) : Int) = 10 from rfl] at ht hv
          generalize (takeM s 10).2 = s' at *
          generalize (takeM s 10).1 = p at *
          obtain ⟨m, hm⟩ : ∃ m, p.length = m := ⟨_, rfl⟩
          rw [hm] at hy ⊢
          have HY := Lib.hid hy
          have HP := Lib.hid hpl
          have HMP := Lib.hid hm
          have hmN : m ≤ 10 := by omega
          have HMA := Lib.hid (HM.out.kept hka (fun hf => by have := HGM.out; cases hf; omega))
          have HBA := Lib.hid (HB.out.kept hka (fun hf => by have := HG2.out; cases hf; omega))
          have HSA := Lib.hid (HS.out.kept hka (fun hf => by have := HGM.out; have := HGS.out; cases hf; omega))
          have HKA := Lib.hid (HK.out.same hka)
          have HCA := Lib.hid hc
          have HLN := Lib.hid (show LpS l 1 s' (lap p pd) sv fi from ⟨ht, by rw [lap_len _ _ (by rw [HL.out.lpd]; exact hpl)]; exact HL.out.lpd, HL.out.lsv, HL.out.lfi, fun h _ => (lap_full _ _ (by rw [hv h, HL.out.lpd]; simp [ofs]; omega)).trans (hv h), fun _ h => absurd h (by omega), fun _ h => absurd h (by omega)⟩)
          clear q ho hc hka ht hv hpl hy hm HM HB HS HK HC HL
          go_wp2_with (first | (refine wpList_cp rfl (.tmp 55) (.tmp 59) 31 31 rfl 5 Try.underlying31 sz5 gm 15 10 10 m c' A' rfl rfl p HY.out hmN (dcs ⟨op, hp, xi, se, fl, ci, yo, ne, re, st, pd, sv, fi, [], []⟩ nilv nilv) 33 HMA.out (by rw [dcs_len H6.out]; decide) ?_; intro wb hb hkb) | fail)
          have HMB := Lib.hid (DB.cp_pd p HP.out H6.out hb)
          have HBB := Lib.hid (HBA.out.kept hkb (fun hf => by have := HG2M.out; cases hf; omega))
          have HSB := Lib.hid (HSA.out.kept hkb (fun hf => by have := HGS.out; cases hf; omega))
          have HCB := Lib.hid (HCA.out.kept hkb (fun hf => by have := HGM.out; cases hf; omega) (fun j hj hf => by have := HLA.out j hj; have := HWM.out; cases hf; omega))
          have HKB := Lib.hid (HKA.out.fresh hkb (fun j hj => by have := HWM.out; cases hj; omega))
          clear hb hkb HMA HBA HSA HCA HKA HY
          go_roundw
          case rel => exact ⟨1, s', (lap p pd), sv, fi, by omega, by go_num, HLN.out, HCB.out, HMB.out, HBB.out, HSB.out, HKB.out⟩
          case measure => simp [intOf]
        · obtain rfl := (show _ = Value.int .i64 1 from hi)
          clear hi
          have q := (show wr.cell? ⟨gs, 1, none⟩ = some (.slice (some ⟨gm, 25, none⟩) 64 64) from HS.out.cell 1)
          go_wp2_with (fail)
          refine (Take_yes gc A n c s 64 _ HC.out (by omega) hn).mono ?_
          rintro e wa ⟨v, rfl, ho, hc, hka⟩
          obtain ⟨ht, hv⟩ := HL.out.t.next 64 (by show 44 + 64 ≤ 240; omega)
          have hpl : (takeM s 64).1.length ≤ 64 := takeM_len2 s 64
          obtain ⟨A', c', rfl, hy, -⟩ := Byt.of_own ho
          rw [show ((64 : Nat) : Int) = 64 from rfl] at ht hv
          generalize (takeM s 64).2 = s' at *
          generalize (takeM s 64).1 = p at *
          obtain ⟨m, hm⟩ : ∃ m, p.length = m := ⟨_, rfl⟩
          rw [hm] at hy ⊢
          have HY := Lib.hid hy
          have HP := Lib.hid hpl
          have HMP := Lib.hid hm
          have hmN : m ≤ 64 := by omega
          have HMA := Lib.hid (HM.out.kept hka (fun hf => by have := HGM.out; cases hf; omega))
          have HBA := Lib.hid (HB.out.kept hka (fun hf => by have := HG2.out; cases hf; omega))
          have HSA := Lib.hid (HS.out.kept hka (fun hf => by have := HGM.out; have := HGS.out; cases hf; omega))
          have HKA := Lib.hid (HK.out.same hka)
          have HCA := Lib.hid hc
          have HLN := Lib.hid (show LpS l 2 s' pd (lap p sv) fi from ⟨ht, HL.out.lpd, by rw [lap_len _ _ (by rw [HL.out.lsv]; exact hpl)]; exact HL.out.lsv, HL.out.lfi, fun h _ => HL.out.vp h (by omega), fun h _ => (lap_full _ _ (by rw [hv h, HL.out.lsv]; simp [ofs]; omega)).trans (hv h), fun _ h => absurd h (by omega)⟩)
          clear q ho hc hka ht hv hpl hy hm HM HB HS HK HC HL
          go_wp2_with (first | (refine wpList_cp rfl (.tmp 55) (.tmp 59) 31 31 rfl 5 Try.underlying31 sz5 gm 25 64 64 m c' A' rfl rfl p HY.out hmN (dcs ⟨op, hp, xi, se, fl, ci, yo, ne, re, st, pd, sv, fi, [], []⟩ nilv nilv) 33 HMA.out (by rw [dcs_len H6.out]; decide) ?_; intro wb hb hkb) | fail)
          have HMB := Lib.hid (DB.cp_sv p HP.out H6.out hb)
          have HBB := Lib.hid (HBA.out.kept hkb (fun hf => by have := HG2M.out; cases hf; omega))
          have HSB := Lib.hid (HSA.out.kept hkb (fun hf => by have := HGS.out; cases hf; omega))
          have HCB := Lib.hid (HCA.out.kept hkb (fun hf => by have := HGM.out; cases hf; omega) (fun j hj hf => by have := HLA.out j hj; have := HWM.out; cases hf; omega))
          have HKB := Lib.hid (HKA.out.fresh hkb (fun j hj => by have := HWM.out; cases hj; omega))
          clear hb hkb HMA HBA HSA HCA HKA HY
          go_roundw
          case rel => exact ⟨2, s', pd, (lap p sv), fi, by omega, by go_num, HLN.out, HCB.out, HMB.out, HBB.out, HSB.out, HKB.out⟩
          case measure => simp [intOf]
        · obtain rfl := (show _ = Value.int .i64 2 from hi)
          clear hi
          have q := (show wr.cell? ⟨gs, 2, none⟩ = some (.slice (some ⟨gm, 89, none⟩) 128 128) from HS.out.cell 2)
          go_wp2_with (fail)
          refine (Take_yes gc A n c s 128 _ HC.out (by omega) hn).mono ?_
          rintro e wa ⟨v, rfl, ho, hc, hka⟩
          obtain ⟨ht, hv⟩ := HL.out.t.next 128 (by show 108 + 128 ≤ 240; omega)
          have hpl : (takeM s 128).1.length ≤ 128 := takeM_len2 s 128
          obtain ⟨A', c', rfl, hy, -⟩ := Byt.of_own ho
          rw [show ((128 : Nat) : Int) = 128 from rfl] at ht hv
          generalize (takeM s 128).2 = s' at *
          generalize (takeM s 128).1 = p at *
          obtain ⟨m, hm⟩ : ∃ m, p.length = m := ⟨_, rfl⟩
          rw [hm] at hy ⊢
          have HY := Lib.hid hy
          have HP := Lib.hid hpl
          have HMP := Lib.hid hm
          have hmN : m ≤ 128 := by omega
          have HMA := Lib.hid (HM.out.kept hka (fun hf => by have := HGM.out; cases hf; omega))
          have HBA := Lib.hid (HB.out.kept hka (fun hf => by have := HG2.out; cases hf; omega))
          have HSA := Lib.hid (HS.out.kept hka (fun hf => by have := HGM.out; have := HGS.out; cases hf; omega))
          have HKA := Lib.hid (HK.out.same hka)
          have HCA := Lib.hid hc
          have HLN := Lib.hid (show LpS l 3 s' pd sv (lap p fi) from ⟨ht, HL.out.lpd, HL.out.lsv, by rw [lap_len _ _ (by rw [HL.out.lfi]; exact hpl)]; exact HL.out.lfi, fun h _ => HL.out.vp h (by omega), fun h _ => HL.out.vs h (by omega), fun h _ => (lap_full _ _ (by rw [hv h, HL.out.lfi]; simp [ofs]; omega)).trans (hv h)⟩)
          clear q ho hc hka ht hv hpl hy hm HM HB HS HK HC HL
          go_wp2_with (first | (refine wpList_cp rfl (.tmp 55) (.tmp 59) 31 31 rfl 5 Try.underlying31 sz5 gm 89 128 128 m c' A' rfl rfl p HY.out hmN (dcs ⟨op, hp, xi, se, fl, ci, yo, ne, re, st, pd, sv, fi, [], []⟩ nilv nilv) 33 HMA.out (by rw [dcs_len H6.out]; decide) ?_; intro wb hb hkb) | fail)
          have HMB := Lib.hid (DB.cp_fi p HP.out H6.out hb)
          have HBB := Lib.hid (HBA.out.kept hkb (fun hf => by have := HG2M.out; cases hf; omega))
          have HSB := Lib.hid (HSA.out.kept hkb (fun hf => by have := HGS.out; cases hf; omega))
          have HCB := Lib.hid (HCA.out.kept hkb (fun hf => by have := HGM.out; cases hf; omega) (fun j hj hf => by have := HLA.out j hj; have := HWM.out; cases hf; omega))
          have HKB := Lib.hid (HKA.out.fresh hkb (fun j hj => by have := HWM.out; cases hj; omega))
          clear hb hkb HMA HBA HSA HCA HKA HY
          go_roundw
          case rel => exact ⟨3, s', pd, sv, (lap p fi), by omega, by go_num, HLN.out, HCB.out, HMB.out, HBB.out, HSB.out, HKB.out⟩
          case measure => simp [intOf]
        · obtain rfl := (show _ = Value.int .i64 3 from hi)
          clear hi HS
          go_wp2_with (fail)
          refine (Four_yes gc A n c _ _ HC.out).mono ?_
          rintro e wa ⟨rfl, hc, hk⟩
          obtain ⟨x, s', e1, e2, ht, hbx, hv⟩ := tk_num HL.out.t 4 4 rfl (by decide)
          rw [e2] at hc
          rw [e1]
          have HCA := Lib.hid hc
          have HTA := Lib.hid (show TkS l 240 s' from ht)
          have HMA := Lib.hid (HM.out.kept hk (fun hf => by have := HGM.out; cases hf; omega))
          have HBA := Lib.hid (HB.out.kept hk (fun hf => by have := HG2.out; cases hf; omega))
          have HKA := Lib.hid (HK.out.same hk)
          have HX := Lib.hid (show 240 ≤ l.length → (x = 1669485411 ↔ (l.drop 236).take 4 = mrk) from fun h => by rw [show x = numM ((l.drop 236).take 4) from hv h]; exact mrk_num _ (by simp; omega))
          have HOK := Lib.hid (show Dh.ok ⟨op, hp, xi, se, fl, ci, yo, ne, re, st, pd, sv, fi, [], []⟩ from ⟨H6.out, HLxi.out, HLse.out, HLfl.out, HLci.out, HLyo.out, HLne.out, HLre.out⟩)
          have HIS := Lib.hid (show 240 ≤ l.length → ⟨op, hp, xi, se, fl, ci, yo, ne, re, st, pd, sv, fi, [], []⟩ = headOf l from fun h => by
            have h1 := HL.out.vp h (by omega)
            have h2 := HL.out.vs h (by omega)
            have h3 := HL.out.vf h (by omega)
            rw [HVop.out h, HVhp.out h, HVxi.out h, HVse.out h, HVfl.out h, HVci.out h, HVyo.out h, HVne.out h, HVre.out h, HVst.out h, h1, h2, h3]
            rfl)
          have HW := Lib.hid (show 240 ≤ l.length → wellB l = (decide (op = 1 ∨ op = 2) && decide (b1 = 1) && decide (b2 = 6) && decide (x = 1669485411)) from fun h => by
            unfold wellB
            rw [← HVop.out h, ← HVb1.out h, ← HVb2.out h]
            congr 1
            exact decide_eq_decide.2 (HX.out h).symm)
          clear hc hk ht hbx hv e1 e2 HX HL HM HB HK HC HVop HVb1 HVb2 HVhp HVxi HVse HVfl HVci HVyo HVne HVre HVst
          have f1 : ((b1.toNat : Int) != 1) = decide (b1 ≠ 1) := u8_ne b1 1
          have f2 : ((b2.toNat : Int) != 6) = decide (b2 ≠ 6) := u8_ne b2 6
          have f3 : ((x : Int) == 1669485411) = decide (x = 1669485411) := by rw [Bool.eq_iff_iff]; simp; omega
          cases ha : decide (op = 1 ∨ op = 2)
          · have h1 := True.intro
            have h2 := True.intro
            have h3 := True.intro
            have HAS := Lib.hid (show ∀ u, Calls Try.prog 53 #[dhv ⟨op, hp, xi, se, fl, ci, yo, ne, re, st, pd, sv, fi, [], []⟩ nilv nilv] u fun e w' => e = .returned (.bool false) ∧ Kept Nil u w' from fun u => by
              have := asks_yes ⟨op, hp, xi, se, fl, ci, yo, ne, re, st, pd, sv, fi, [], []⟩ H6.out nilv nilv u
              rw [show decide ((Dh.op ⟨op, hp, xi, se, fl, ci, yo, ne, re, st, pd, sv, fi, [], []⟩) = 1 ∨ (Dh.op ⟨op, hp, xi, se, fl, ci, yo, ne, re, st, pd, sv, fi, [], []⟩) = 2) = false from ha] at this
              exact this)
            have HBAD := Lib.hid (fin_bad (hd := ⟨op, hp, xi, se, fl, ci, yo, ne, re, st, pd, sv, fi, [], []⟩) HTA.out (fun h => by rw [HW.out h]; simp [*]))
            clear ha h1 h2 h3 HW HIS HTA
            go_wp2_with (first | (refine wpList_ld rfl _ _ rfl gm 0 rfl (dcs ⟨op, hp, xi, se, fl, ci, yo, ne, re, st, pd, sv, fi, [], []⟩ nilv nilv) (HMA.out.all) _ Try.underlying33 rfl (infDh _ H6.out _ _) ?_; simp only [Act.put, List.setIfInBounds_toArray, List.set_cons_succ, List.set_cons_zero]) | (go_at_call 53; refine (HAS.out _).mono ?_; rintro e wb ⟨rfl, hkb⟩; have HMB := Lib.hid (HMA.out.kept hkb (fun hf => hf)); have HBB := Lib.hid (HBA.out.kept hkb (fun hf => hf)); have HCB := Lib.hid (HCA.out.kept hkb (fun hf => hf) (fun _ _ hf => hf)); have HKB := Lib.hid (HKA.out.then hkb); clear hkb HMA HBA HCA HKA HAS) | fail)
            refine (fail_yes gc A n c _ 5 _ HCB.out).mono ?_
            rintro e wc ⟨rfl, hc, hkc⟩
            have HMC := Lib.hid (HMB.out.kept hkc (fun hf => by have := HGM.out; cases hf; omega))
            have HBC := Lib.hid (HBB.out.kept hkc (fun hf => by have := HG2.out; cases hf; omega))
            have HCC := Lib.hid hc
            have HKC := Lib.hid (HKB.out.same hkc)
            clear hc hkc HMB HBB HCB HKB
            go_wp2_with (first | (refine wpList_ld rfl _ _ rfl gm 0 rfl (dcs ⟨op, hp, xi, se, fl, ci, yo, ne, re, st, pd, sv, fi, [], []⟩ nilv nilv) (HMC.out.all) _ Try.underlying33 rfl (infDh _ H6.out _ _) ?_; simp only [Act.put, List.setIfInBounds_toArray, List.set_cons_succ, List.set_cons_zero]) | (refine wpList_st rfl _ (.tmp 2) _ rfl g2 0 rfl (dcs ⟨op, hp, xi, se, fl, ci, yo, ne, re, st, pd, sv, fi, [], []⟩ nilv nilv) _ rfl rfl (infDh _ H6.out _ _) 33 _ HBC.out (by rw [dcs_len H6.out, dcs_len Dh.zero_ok.s6]; decide) (dcs_one rfl rfl) ?_; intro wd hbd hkd hzd; simp only [Act.put]) | fail)
            have h2 := DB.of_all Dh.zero_ok.s6 H6.out hbd
            refine bodyPost_ret (res_cell0 Try.results30 rfl h2.all Try.underlying33 rfl (infDh _ H6.out _ _)) rfl ?_
            exact ⟨_, _, rfl, ⟨HOK.out, ⟨rfl, rfl⟩, HBAD.out⟩, HCC.out.kept hkd (fun hf => by have := HG2.out; cases hf; omega) (fun j hj hf => by have := HLA.out j hj; have := HW2.out; cases hf; omega), HKC.out.fresh hkd (fun j hj => by have := HW2.out; cases hj; omega)⟩
          · by_cases h1 : b1 = 1
            · by_cases h2 : b2 = 6
              · by_cases h3 : x = 1669485411
                · rw [show decide (b1 ≠ 1) = false by simp [h1]] at f1
                  rw [show decide (b2 ≠ 6) = false by simp [h2]] at f2
                  rw [show decide (x = 1669485411) = true by simp [h3]] at f3
                  have HAS := Lib.hid (show ∀ u, Calls Try.prog 53 #[dhv ⟨op, hp, xi, se, fl, ci, yo, ne, re, st, pd, sv, fi, [], []⟩ nilv nilv] u fun e w' => e = .returned (.bool true) ∧ Kept Nil u w' from fun u => by
                    have := asks_yes ⟨op, hp, xi, se, fl, ci, yo, ne, re, st, pd, sv, fi, [], []⟩ H6.out nilv nilv u
                    rw [show decide ((Dh.op ⟨op, hp, xi, se, fl, ci, yo, ne, re, st, pd, sv, fi, [], []⟩) = 1 ∨ (Dh.op ⟨op, hp, xi, se, fl, ci, yo, ne, re, st, pd, sv, fi, [], []⟩) = 2) = true from ha] at this
                    exact this)
                  have HGOOD := Lib.hid (fin_good HTA.out (fun h => by rw [HW.out h]; simp [*]) HIS.out)
                  clear ha h1 h2 h3 HW HIS HTA
                  go_wp2_with (first | (refine wpList_ld rfl _ _ rfl gm 0 rfl (dcs ⟨op, hp, xi, se, fl, ci, yo, ne, re, st, pd, sv, fi, [], []⟩ nilv nilv) (HMA.out.all) _ Try.underlying33 rfl (infDh _ H6.out _ _) ?_; simp only [Act.put, List.setIfInBounds_toArray, List.set_cons_succ, List.set_cons_zero]) | (go_at_call 53; refine (HAS.out _).mono ?_; rintro e wb ⟨rfl, hkb⟩; have HMB := Lib.hid (HMA.out.kept hkb (fun hf => hf)); have HBB := Lib.hid (HBA.out.kept hkb (fun hf => hf)); have HCB := Lib.hid (HCA.out.kept hkb (fun hf => hf) (fun _ _ hf => hf)); have HKB := Lib.hid (HKA.out.then hkb); clear hkb HMA HBA HCA HKA HAS) | (refine wpList_ld rfl _ _ rfl gm 0 rfl (dcs ⟨op, hp, xi, se, fl, ci, yo, ne, re, st, pd, sv, fi, [], []⟩ nilv nilv) (HMB.out.all) _ Try.underlying33 rfl (infDh _ H6.out _ _) ?_; simp only [Act.put, List.setIfInBounds_toArray, List.set_cons_succ, List.set_cons_zero]) | (refine wpList_st rfl _ (.tmp 2) _ rfl g2 0 rfl (dcs ⟨op, hp, xi, se, fl, ci, yo, ne, re, st, pd, sv, fi, [], []⟩ nilv nilv) _ rfl rfl (infDh _ H6.out _ _) 33 _ HBB.out (by rw [dcs_len H6.out, dcs_len Dh.zero_ok.s6]; decide) (dcs_one rfl rfl) ?_; intro wd hbd hkd hzd; simp only [Act.put]) | fail)
                  have h2 := DB.of_all Dh.zero_ok.s6 H6.out hbd
                  refine bodyPost_ret (res_cell0 Try.results30 rfl h2.all Try.underlying33 rfl (infDh _ H6.out _ _)) rfl ?_
                  exact ⟨_, _, rfl, ⟨HOK.out, ⟨rfl, rfl⟩, HGOOD.out⟩, HCB.out.kept hkd (fun hf => by have := HG2.out; cases hf; omega) (fun j hj hf => by have := HLA.out j hj; have := HW2.out; cases hf; omega), HKB.out.fresh hkd (fun j hj => by have := HW2.out; cases hj; omega)⟩
                · rw [show decide (b1 ≠ 1) = false by simp [h1]] at f1
                  rw [show decide (b2 ≠ 6) = false by simp [h2]] at f2
                  rw [show decide (x = 1669485411) = false by simp [h3]] at f3
                  have HAS := Lib.hid (show ∀ u, Calls Try.prog 53 #[dhv ⟨op, hp, xi, se, fl, ci, yo, ne, re, st, pd, sv, fi, [], []⟩ nilv nilv] u fun e w' => e = .returned (.bool true) ∧ Kept Nil u w' from fun u => by
                    have := asks_yes ⟨op, hp, xi, se, fl, ci, yo, ne, re, st, pd, sv, fi, [], []⟩ H6.out nilv nilv u
                    rw [show decide ((Dh.op ⟨op, hp, xi, se, fl, ci, yo, ne, re, st, pd, sv, fi, [], []⟩) = 1 ∨ (Dh.op ⟨op, hp, xi, se, fl, ci, yo, ne, re, st, pd, sv, fi, [], []⟩) = 2) = true from ha] at this
                    exact this)
                  have HBAD := Lib.hid (fin_bad (hd := ⟨op, hp, xi, se, fl, ci, yo, ne, re, st, pd, sv, fi, [], []⟩) HTA.out (fun h => by rw [HW.out h]; simp [*]))
                  clear ha h1 h2 h3 HW HIS HTA
                  go_wp2_with (first | (refine wpList_ld rfl _ _ rfl gm 0 rfl (dcs ⟨op, hp, xi, se, fl, ci, yo, ne, re, st, pd, sv, fi, [], []⟩ nilv nilv) (HMA.out.all) _ Try.underlying33 rfl (infDh _ H6.out _ _) ?_; simp only [Act.put, List.setIfInBounds_toArray, List.set_cons_succ, List.set_cons_zero]) | (go_at_call 53; refine (HAS.out _).mono ?_; rintro e wb ⟨rfl, hkb⟩; have HMB := Lib.hid (HMA.out.kept hkb (fun hf => hf)); have HBB := Lib.hid (HBA.out.kept hkb (fun hf => hf)); have HCB := Lib.hid (HCA.out.kept hkb (fun hf => hf) (fun _ _ hf => hf)); have HKB := Lib.hid (HKA.out.then hkb); clear hkb HMA HBA HCA HKA HAS) | fail)
                  refine (fail_yes gc A n c _ 5 _ HCB.out).mono ?_
                  rintro e wc ⟨rfl, hc, hkc⟩
                  have HMC := Lib.hid (HMB.out.kept hkc (fun hf => by have := HGM.out; cases hf; omega))
                  have HBC := Lib.hid (HBB.out.kept hkc (fun hf => by have := HG2.out; cases hf; omega))
                  have HCC := Lib.hid hc
                  have HKC := Lib.hid (HKB.out.same hkc)
                  clear hc hkc HMB HBB HCB HKB
                  go_wp2_with (first | (refine wpList_ld rfl _ _ rfl gm 0 rfl (dcs ⟨op, hp, xi, se, fl, ci, yo, ne, re, st, pd, sv, fi, [], []⟩ nilv nilv) (HMC.out.all) _ Try.underlying33 rfl (infDh _ H6.out _ _) ?_; simp only [Act.put, List.setIfInBounds_toArray, List.set_cons_succ, List.set_cons_zero]) | (refine wpList_st rfl _ (.tmp 2) _ rfl g2 0 rfl (dcs ⟨op, hp, xi, se, fl, ci, yo, ne, re, st, pd, sv, fi, [], []⟩ nilv nilv) _ rfl rfl (infDh _ H6.out _ _) 33 _ HBC.out (by rw [dcs_len H6.out, dcs_len Dh.zero_ok.s6]; decide) (dcs_one rfl rfl) ?_; intro wd hbd hkd hzd; simp only [Act.put]) | fail)
                  have h2 := DB.of_all Dh.zero_ok.s6 H6.out hbd
                  refine bodyPost_ret (res_cell0 Try.results30 rfl h2.all Try.underlying33 rfl (infDh _ H6.out _ _)) rfl ?_
                  exact ⟨_, _, rfl, ⟨HOK.out, ⟨rfl, rfl⟩, HBAD.out⟩, HCC.out.kept hkd (fun hf => by have := HG2.out; cases hf; omega) (fun j hj hf => by have := HLA.out j hj; have := HW2.out; cases hf; omega), HKC.out.fresh hkd (fun j hj => by have := HW2.out; cases hj; omega)⟩
              · have h3 := True.intro
                rw [show decide (b1 ≠ 1) = false by simp [h1]] at f1
                rw [show decide (b2 ≠ 6) = true by simp [h2]] at f2
                have HAS := Lib.hid (show ∀ u, Calls Try.prog 53 #[dhv ⟨op, hp, xi, se, fl, ci, yo, ne, re, st, pd, sv, fi, [], []⟩ nilv nilv] u fun e w' => e = .returned (.bool true) ∧ Kept Nil u w' from fun u => by
                  have := asks_yes ⟨op, hp, xi, se, fl, ci, yo, ne, re, st, pd, sv, fi, [], []⟩ H6.out nilv nilv u
                  rw [show decide ((Dh.op ⟨op, hp, xi, se, fl, ci, yo, ne, re, st, pd, sv, fi, [], []⟩) = 1 ∨ (Dh.op ⟨op, hp, xi, se, fl, ci, yo, ne, re, st, pd, sv, fi, [], []⟩) = 2) = true from ha] at this
                  exact this)
                have HBAD := Lib.hid (fin_bad (hd := ⟨op, hp, xi, se, fl, ci, yo, ne, re, st, pd, sv, fi, [], []⟩) HTA.out (fun h => by rw [HW.out h]; simp [*]))
                clear ha h1 h2 h3 HW HIS HTA
                go_wp2_with (first | (refine wpList_ld rfl _ _ rfl gm 0 rfl (dcs ⟨op, hp, xi, se, fl, ci, yo, ne, re, st, pd, sv, fi, [], []⟩ nilv nilv) (HMA.out.all) _ Try.underlying33 rfl (infDh _ H6.out _ _) ?_; simp only [Act.put, List.setIfInBounds_toArray, List.set_cons_succ, List.set_cons_zero]) | (go_at_call 53; refine (HAS.out _).mono ?_; rintro e wb ⟨rfl, hkb⟩; have HMB := Lib.hid (HMA.out.kept hkb (fun hf => hf)); have HBB := Lib.hid (HBA.out.kept hkb (fun hf => hf)); have HCB := Lib.hid (HCA.out.kept hkb (fun hf => hf) (fun _ _ hf => hf)); have HKB := Lib.hid (HKA.out.then hkb); clear hkb HMA HBA HCA HKA HAS) | fail)
                refine (fail_yes gc A n c _ 5 _ HCB.out).mono ?_
                rintro e wc ⟨rfl, hc, hkc⟩
                have HMC := Lib.hid (HMB.out.kept hkc (fun hf => by have := HGM.out; cases hf; omega))
                have HBC := Lib.hid (HBB.out.kept hkc (fun hf => by have := HG2.out; cases hf; omega))
                have HCC := Lib.hid hc
                have HKC := Lib.hid (HKB.out.same hkc)
                clear hc hkc HMB HBB HCB HKB
                go_wp2_with (first | (refine wpList_ld rfl _ _ rfl gm 0 rfl (dcs ⟨op, hp, xi, se, fl, ci, yo, ne, re, st, pd, sv, fi, [], []⟩ nilv nilv) (HMC.out.all) _ Try.underlying33 rfl (infDh _ H6.out _ _) ?_; simp only [Act.put, List.setIfInBounds_toArray, List.set_cons_succ, List.set_cons_zero]) | (refine wpList_st rfl _ (.tmp 2) _ rfl g2 0 rfl (dcs ⟨op, hp, xi, se, fl, ci, yo, ne, re, st, pd, sv, fi, [], []⟩ nilv nilv) _ rfl rfl (infDh _ H6.out _ _) 33 _ HBC.out (by rw [dcs_len H6.out, dcs_len Dh.zero_ok.s6]; decide) (dcs_one rfl rfl) ?_; intro wd hbd hkd hzd; simp only [Act.put]) | fail)
                have h2 := DB.of_all Dh.zero_ok.s6 H6.out hbd
                refine bodyPost_ret (res_cell0 Try.results30 rfl h2.all Try.underlying33 rfl (infDh _ H6.out _ _)) rfl ?_
                exact ⟨_, _, rfl, ⟨HOK.out, ⟨rfl, rfl⟩, HBAD.out⟩, HCC.out.kept hkd (fun hf => by have := HG2.out; cases hf; omega) (fun j hj hf => by have := HLA.out j hj; have := HW2.out; cases hf; omega), HKC.out.fresh hkd (fun j hj => by have := HW2.out; cases hj; omega)⟩
            · have h2 := True.intro
              have h3 := True.intro
              rw [show decide (b1 ≠ 1) = true by simp [h1]] at f1
              have HAS := Lib.hid (show ∀ u, Calls Try.prog 53 #[dhv ⟨op, hp, xi, se, fl, ci, yo, ne, re, st, pd, sv, fi, [], []⟩ nilv nilv] u fun e w' => e = .returned (.bool true) ∧ Kept Nil u w' from fun u => by
                have := asks_yes ⟨op, hp, xi, se, fl, ci, yo, ne, re, st, pd, sv, fi, [], []⟩ H6.out nilv nilv u
                rw [show decide ((Dh.op ⟨op, hp, xi, se, fl, ci, yo, ne, re, st, pd, sv, fi, [], []⟩) = 1 ∨ (Dh.op ⟨op, hp, xi, se, fl, ci, yo, ne, re, st, pd, sv, fi, [], []⟩) = 2) = true from ha] at this
                exact this)
              have HBAD := Lib.hid (fin_bad (hd := ⟨op, hp, xi, se, fl, ci, yo, ne, re, st, pd, sv, fi, [], []⟩) HTA.out (fun h => by rw [HW.out h]; simp [*]))
              clear ha h1 h2 h3 HW HIS HTA
              go_wp2_with (first | (refine wpList_ld rfl _ _ rfl gm 0 rfl (dcs ⟨op, hp, xi, se, fl, ci, yo, ne, re, st, pd, sv, fi, [], []⟩ nilv nilv) (HMA.out.all) _ Try.underlying33 rfl (infDh _ H6.out _ _) ?_; simp only [Act.put, List.setIfInBounds_toArray, List.set_cons_succ, List.set_cons_zero]) | (go_at_call 53; refine (HAS.out _).mono ?_; rintro e wb ⟨rfl, hkb⟩; have HMB := Lib.hid (HMA.out.kept hkb (fun hf => hf)); have HBB := Lib.hid (HBA.out.kept hkb (fun hf => hf)); have HCB := Lib.hid (HCA.out.kept hkb (fun hf => hf) (fun _ _ hf => hf)); have HKB := Lib.hid (HKA.out.then hkb); clear hkb HMA HBA HCA HKA HAS) | fail)
              refine (fail_yes gc A n c _ 5 _ HCB.out).mono ?_
              rintro e wc ⟨rfl, hc, hkc⟩
              have HMC := Lib.hid (HMB.out.kept hkc (fun hf => by have := HGM.out; cases hf; omega))
              have HBC := Lib.hid (HBB.out.kept hkc (fun hf => by have := HG2.out; cases hf; omega))
              have HCC := Lib.hid hc
              have HKC := Lib.hid (HKB.out.same hkc)
              clear hc hkc HMB HBB HCB HKB
              go_wp2_with (first | (refine wpList_ld rfl _ _ rfl gm 0 rfl (dcs ⟨op, hp, xi, se, fl, ci, yo, ne, re, st, pd, sv, fi, [], []⟩ nilv nilv) (HMC.out.all) _ Try.underlying33 rfl (infDh _ H6.out _ _) ?_; simp only [Act.put, List.setIfInBounds_toArray, List.set_cons_succ, List.set_cons_zero]) | (refine wpList_st rfl _ (.tmp 2) _ rfl g2 0 rfl (dcs ⟨op, hp, xi, se, fl, ci, yo, ne, re, st, pd, sv, fi, [], []⟩ nilv nilv) _ rfl rfl (infDh _ H6.out _ _) 33 _ HBC.out (by rw [dcs_len H6.out, dcs_len Dh.zero_ok.s6]; decide) (dcs_one rfl rfl) ?_; intro wd hbd hkd hzd; simp only [Act.put]) | fail)
              have h2 := DB.of_all Dh.zero_ok.s6 H6.out hbd
              refine bodyPost_ret (res_cell0 Try.results30 rfl h2.all Try.underlying33 rfl (infDh _ H6.out _ _)) rfl ?_
              exact ⟨_, _, rfl, ⟨HOK.out, ⟨rfl, rfl⟩, HBAD.out⟩, HCC.out.kept hkd (fun hf => by have := HG2.out; cases hf; omega) (fun j hj hf => by have := HLA.out j hj; have := HW2.out; cases hf; omega), HKC.out.fresh hkd (fun j hj => by have := HW2.out; cases hj; omega)⟩
end Go.Proofs.Ythjfeanmgaidcaa
