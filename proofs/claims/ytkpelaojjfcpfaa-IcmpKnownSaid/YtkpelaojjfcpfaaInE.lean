/- Package inet: the closure that reads fields. A head's fields, out of the words of its bytes. Nothing of the program is named here but the closure's numbers. -/
import Derived.Test.YtkpelaojjfcpfaaInL
import Derived.Test.YtkpelaojjfcpfaaCutC
import Derived.Deep.DeepCutAuto
import Derived.Test.YtkpelaojjfcpfaaCutD
namespace Go.Proofs.Ytkpelaojjfcpfaa
open Go.RowKit Go.Sort
set_option linter.unusedVariables false

/-- What stands of a word of 32 bits behind its first k. -/
def wrdM (W k : Nat) : Nat := W * 2 ^ k % 4294967296
/-- The next b bits. -/
def fldM (W k b : Nat) : Nat := wrdM W k / 2 ^ (32 - b)
theorem wrd_step (W k b : Nat) : wrdM W k * 2 ^ b % 4294967296 = wrdM W (k + b) := by
  unfold wrdM
  rw [Nat.mod_mul_mod, Nat.mul_assoc, ← Nat.pow_add]
theorem wrd_lt (W k : Nat) : wrdM W k < 4294967296 := Nat.mod_lt _ (by decide)
theorem fld_lt (W k b : Nat) : fldM W k b < 4294967296 := Nat.lt_of_le_of_lt (Nat.div_le_self _ _) (wrd_lt W k)
/-- The closure's variables: the cutter, the word, how many bits are left. -/
structure Fld (w : World) (g gl gc gw : Nat) (A : Option Addr) (n c : Nat) (s : Cst) (W k : Nat) : Prop where
  cut : Cutr w g A n c s
  bc : Blo w gc 60 #[.pointer (some ⟨g, 0, none⟩)]
  bw : Blo w gw 44 #[.int .u32 (wrdM W k : Int)]
  bl : Blo w gl 3 #[.int .i64 ((32 - k : Nat) : Int)]
  nl : ∀ i, Lies A n i → i ≠ gl ∧ i ≠ gw
def fldF (g gl gw : Nat) : Nat → Prop := fun i => i = g ∨ i = gl ∨ i = gw
def fldV (gl gc gw : Nat) : Value := .func (.func 62) #[] #[.pointer (some ⟨gl, 0, none⟩), .pointer (some ⟨gc, 0, none⟩), .pointer (some ⟨gw, 0, none⟩)]
section
variable {w w' : World} {g gl gc gw n c : Nat} {A : Option Addr} {s : Cst} {W k : Nat}
theorem Fld.kept {F : Nat → Prop} (h : Fld w g gl gc gw A n c s W k) (q : Kept F w w') (h1 : ¬ F g) (h2 : ¬ F gl) (h3 : ¬ F gc) (h4 : ¬ F gw) (h5 : ∀ i, Lies A n i → ¬ F i) : Fld w' g gl gc gw A n c s W k :=
  ⟨h.cut.kept q h1 h5, h.bc.kept q h3, h.bw.kept q h4, h.bl.kept q h2, h.nl⟩
theorem Fld.nil (h : Fld w g gl gc gw A n c s W k) (q : Kept Nil w w') : Fld w' g gl gc gw A n c s W k := h.kept q (fun hf => hf) (fun hf => hf) (fun hf => hf) (fun hf => hf) (fun _ _ hf => hf)
theorem Fld.ne (h : Fld w g gl gc gw A n c s W k) : g ≠ gl ∧ g ≠ gw ∧ gc ≠ gl ∧ gc ≠ gw ∧ gl ≠ gw ∧ g ≠ gc :=
  ⟨h.cut.blo.ne h.bl (by decide), h.cut.blo.ne h.bw (by decide), h.bc.ne h.bl (by decide), h.bc.ne h.bw (by decide), h.bl.ne h.bw (by decide), h.cut.blo.ne h.bc (by decide)⟩
/-- The word moved on. -/
theorem Fld.set1 (h : Fld w g gl gc gw A n c s W k) (W' k' : Nat) (x y : Int) (hx : x = (wrdM W' k' : Int)) (hy : y = ((32 - k' : Nat) : Int)) :
    Fld ((w.setCell ⟨gw, 0, none⟩ (.int .u32 x)).setCell ⟨gl, 0, none⟩ (.int .i64 y)) g gl gc gw A n c s W' k' ∧ Kept (fldF g gl gw) w ((w.setCell ⟨gw, 0, none⟩ (.int .u32 x)).setCell ⟨gl, 0, none⟩ (.int .i64 y)) := by
  subst hx hy
  obtain ⟨n1, n2, n3, n4, n5, n6⟩ := h.ne
  have K : Kept (fun i => i = gl ∨ i = gw) w ((w.setCell ⟨gw, 0, none⟩ (.int .u32 (wrdM W' k' : Int))).setCell ⟨gl, 0, none⟩ (.int .i64 ((32 - k' : Nat) : Int))) := ((Kept.refl _ w).put (.inr rfl) _).put (.inl rfl) _
  refine ⟨⟨h.cut.kept K (fun hf => by rcases hf with hf | hf; exact n1 hf; exact n2 hf) (fun i hi hf => by have := h.nl i hi; rcases hf with hf | hf; exact this.1 hf; exact this.2 hf), h.bc.kept K (fun hf => by rcases hf with hf | hf; exact n3 hf; exact n4 hf), ?_, ?_, h.nl⟩, K.mono (fun i _ hf => .inr hf)⟩
  · have := (h.bw.set 0 (.int .u32 (wrdM W' k' : Int))).far (p := ⟨gl, 0, none⟩) (Ne.symm n5) (.int .i64 ((32 - k' : Nat) : Int))
    simpa using this
  · have := (h.bl.far (p := ⟨gw, 0, none⟩) n5 (.int .u32 (wrdM W' k' : Int))).set 0 (.int .i64 ((32 - k' : Nat) : Int))
    simpa using this
theorem Fld.drew (h : Fld w g gl gc gw A n c s W k) (q : Nat) : Fld (w.drewN q) g gl gc gw A n c s W k := h.nil ((Kept.refl Nil w).drewN q)
end
set_option maxRecDepth 100000 in
set_option maxHeartbeats 4000000 in
theorem fld_in (g gl gc gw : Nat) (A : Option Addr) (n c : Nat) (s : Cst) (W k b : Nat) (w : World) (h : Fld w g gl gc gw A n c s W k) (hk : k < 32) (hb : k + b ≤ 32) :
    Calls Try.prog 62 #[.int .i64 (b : Int), .pointer (some ⟨gl, 0, none⟩), .pointer (some ⟨gc, 0, none⟩), .pointer (some ⟨gw, 0, none⟩)] w fun e w' =>
      e = .returned (.int .u32 (fldM W k b : Int)) ∧ Fld w' g gl gc gw A n c s W (k + b) ∧ Kept (fldF g gl gw) w w' := by
  have c1 := h.bl.cell 0
  have f1 := h.bl.frozen 0
  have c3 := h.bw.cell 0
  have f3 := h.bw.frozen 0
  simp at c1 c3
  have hnl : gl ≠ gw := h.ne.2.2.2.2.1
  have hx := wrd_lt W k
  have hst := wrd_step W k b
  have HF := Lib.hid (show fldM W k b = wrdM W k / 2 ^ (32 - b) from rfl)
  obtain ⟨x, hxx⟩ : ∃ x, wrdM W k = x := ⟨_, rfl⟩
  obtain ⟨L, hL⟩ : ∃ L, 32 - k = L := ⟨_, rfl⟩
  rw [hxx] at c3 hx hst HF
  rw [hL] at c1
  have hL0 : ((L : Int) == 0) = false := by rw [beq_eq_false_iff_ne]; omega
  have hLb : b ≤ L := by omega
  have hL32 : L ≤ 32 := by omega
  have HL := Lib.hid hL
  have HS := Lib.hid hst
  have HH := Lib.hid h
  have hb32 : (b : Int) ≤ 32 := by omega
  have HD := Lib.hid (show (x : Int) / 2 ^ (32 - b) = ((x / 2 ^ (32 - b) : Nat) : Int) by simp)
  have HM := Lib.hid (show (x : Int) * 2 ^ b % 4294967296 = ((x * 2 ^ b % 4294967296 : Nat) : Int) by simp)
  clear hxx hL hst h hb hk
  go_enter Try.func62, Try.ntmps62
  go_wp2
  go_region
  all_goals go_wp2
  all_goals go_ret
  obtain ⟨q1, q2⟩ := Fld.set1 HH.out W (k + b) ((x : Int) * 2 ^ b % 4294967296) ((L : Int) - (b : Int)) (by rw [HM.out, HS.out]) (by have := HL.out; omega)
  exact ⟨by rw [HF.out, ← HD.out]; rfl, q1.nil ((Kept.refl Nil _).drew), q2.drew⟩
set_option maxRecDepth 100000 in
set_option maxHeartbeats 4000000 in
theorem fld_next (g gl gc gw : Nat) (A : Option Addr) (n c : Nat) (s : Cst) (W b : Nat) (w : World) (h : Fld w g gl gc gw A n c s W 32) (hb : b ≤ 32) :
    Calls Try.prog 62 #[.int .i64 (b : Int), .pointer (some ⟨gl, 0, none⟩), .pointer (some ⟨gc, 0, none⟩), .pointer (some ⟨gw, 0, none⟩)] w fun e w' =>
      e = .returned (.int .u32 (fldM (numM (takeM s 4).1) 0 b : Int)) ∧ Fld w' g gl gc gw A n c (takeM s 4).2 (numM (takeM s 4).1) b ∧ Kept (fldF g gl gw) w w' := by
  have c1 := h.bl.cell 0
  have c2 := h.bc.cell 0
  simp at c1 c2
  have hne := h.ne
  have hnl := h.nl
  have HNE := Lib.hid hne
  have HNL := Lib.hid hnl
  have hb32 : (b : Int) ≤ 32 := by omega
  have HC := Lib.hid h.cut
  have HH := Lib.hid h
  have hw4 : numM (takeM s 4).1 < 4294967296 := by
    have h1 := numM_lt (takeM s 4).1
    have h2 := takeM_len2 s 4
    have h3 : (256 : Nat) ^ (takeM s 4).1.length ≤ 256 ^ 4 := Nat.pow_le_pow_right (by omega) (by simpa using h2)
    omega
  clear hne hnl h
  go_enter Try.func62, Try.ntmps62
  go_wp2_with (fail)
  refine (Four_yes g A n c s _ HC.out).mono ?_
  rintro e w1 ⟨rfl, hc1, hk1⟩
  generalize hs1 : (takeM s 4).2 = s1 at *
  generalize hV : numM (takeM s 4).1 = V at *
  have HS1 := Lib.hid hs1
  have HV := Lib.hid hV
  clear hs1 hV
  have hF1 : Fld w1 g gl gc gw A n c s1 W 32 := by
    obtain ⟨n1, n2, n3, n4, n5, n6⟩ := HNE.out
    exact ⟨hc1, HH.out.bc.kept hk1 (fun hf => n6 hf.symm), HH.out.bw.kept hk1 (fun hf => n2 hf.symm), HH.out.bl.kept hk1 (fun hf => n1 hf.symm), HNL.out⟩
  have hk1' : Kept (fldF g gl gw) w w1 := hk1.mono (fun i _ hf => .inl hf)
  have e0 : wrdM V 0 = V := by unfold wrdM; rw [Nat.pow_zero, Nat.mul_one, Nat.mod_eq_of_lt hw4]
  have u1 := hF1.bw.cell 0
  have v1 := hF1.bw.frozen 0
  have u2 := hF1.bl.cell 0
  have v2 := hF1.bl.frozen 0
  simp at u1 u2
  have HF1 := Lib.hid hF1
  have HK1 := Lib.hid hk1'
  have HE0 := Lib.hid e0
  have hglw : gl ≠ gw := HNE.out.2.2.2.2.1
  clear hc1 hk1 hF1 hk1' e0 c1 c2 HC HH
  go_upto_region 3 with (fail)
  refine wp_nameE (fun Z => Fld Z g gl gc gw A n c s1 V 0 ∧ Kept (fldF g gl gw) w Z) (by
    obtain ⟨q1, q2⟩ := Fld.set1 HF1.out V 0 (V : Int) 32 (by rw [HE0.out]) rfl
    exact ⟨q1, HK1.out.same q2⟩) ?_
  rintro Z ⟨h, hkz⟩
  have HKZ := Lib.hid hkz
  clear hkz u1 u2 v1 v2
  have c1 := h.bl.cell 0
  have f1 := h.bl.frozen 0
  have c3 := h.bw.cell 0
  have f3 := h.bw.frozen 0
  simp at c1 c3
  have hst := wrd_step V 0 b
  rw [HE0.out, Nat.zero_add] at hst
  rw [HE0.out] at c3
  have HF := Lib.hid (show fldM V 0 b = V / 2 ^ (32 - b) by unfold fldM; rw [HE0.out])
  have HS := Lib.hid hst
  have HH := Lib.hid h
  have HD := Lib.hid (show (V : Int) / 2 ^ (32 - b) = ((V / 2 ^ (32 - b) : Nat) : Int) by simp)
  have HM := Lib.hid (show (V : Int) * 2 ^ b % 4294967296 = ((V * 2 ^ b % 4294967296 : Nat) : Int) by simp)
  clear hst h
  go_wp2
  go_region
  all_goals go_wp2
  all_goals go_ret
  rw [HS1.out, HV.out]
  obtain ⟨q1, q2⟩ := Fld.set1 HH.out V b ((V : Int) * 2 ^ b % 4294967296) (32 - (b : Int)) (by rw [HM.out, HS.out]) (by omega)
  exact ⟨by rw [HF.out, ← HD.out]; rfl, q1.nil ((Kept.refl Nil _).drew), HKZ.out.same q2.drew⟩
end Go.Proofs.Ytkpelaojjfcpfaa
namespace Go.Proofs.Ytkpelaojjfcpfaa
set_option linter.unusedVariables false

theorem fld_lt2 (W k b : Nat) (hb : b ≤ 32) : fldM W k b < 2 ^ b := by
  unfold fldM
  have h := wrd_lt W k
  have e : 4294967296 = 2 ^ (32 - b) * 2 ^ b := by rw [← Nat.pow_add, show 32 - b + b = 32 by omega]
  rw [e] at h
  exact Nat.div_lt_of_lt_mul h
/-- All that is asked of a head alone. -/
def readP (b : List UInt8) : Hd × Nat × Int :=
  if b.length < 20 then (Hd.zero, 0, 4) else
  if (b.headD 0).toNat / 16 ≠ 4 ∨ hlenM b < 20 then (Hd.zero, 0, 5) else
  if b.length < hlenM b then (Hd.zero, 0, 4) else
  if allM b < hlenM b then (Hd.zero, 0, 5) else
  if sumM (b.take (hlenM b)) ≠ 0 then (Hd.zero, 0, 21) else
  if optsM ((b.take (hlenM b)).drop 20) = false then (Hd.zero, 0, 5) else (hdM b, allM b, 0)
theorem hlen_60 (b : List UInt8) : hlenM b ≤ 60 := by unfold hlenM; omega
theorem head_take (l : List UInt8) (m : Nat) (h : 0 < m) : (l.take m).headD 0 = l.headD 0 := by
  cases l with
  | nil => simp
  | cons a r => obtain ⟨k, rfl⟩ : ∃ k, m = k + 1 := ⟨m - 1, by omega⟩; rfl
theorem cut_take (l : List UInt8) (m a b : Nat) (h : a + b ≤ m) : ((l.take m).drop a).take b = (l.drop a).take b := by
  rw [List.drop_take, List.take_take, Nat.min_eq_left (by omega)]
theorem head_drop (l : List UInt8) (m a : Nat) (h : a < m) : ((l.take m).drop a).headD 0 = (l.drop a).headD 0 := by
  rw [List.drop_take]
  exact head_take _ _ (by omega)
theorem readP_60 (l : List UInt8) : readP (l.take 60) = readP l := by
  have h60 := hlen_60 l
  have e1 : hlenM (l.take 60) = hlenM l := by unfold hlenM; rw [head_take l 60 (by decide)]
  have e2 : allM (l.take 60) = allM l := by unfold allM; rw [cut_take l 60 2 2 (by decide)]
  have e3 : (l.take 60).take (hlenM l) = l.take (hlenM l) := by rw [List.take_take, Nat.min_eq_left h60]
  have e4 : hdM (l.take 60) = hdM l := by
    unfold hdM
    rw [e1, e3, cut_take l 60 4 2 (by decide), cut_take l 60 6 2 (by decide), cut_take l 60 12 4 (by decide), cut_take l 60 16 4 (by decide), head_drop l 60 1 (by decide), head_drop l 60 8 (by decide), head_drop l 60 9 (by decide)]
  have l1 : (l.take 60).length < 20 ↔ l.length < 20 := by rw [List.length_take]; omega
  have l2 : (l.take 60).length < hlenM l ↔ l.length < hlenM l := by rw [List.length_take]; omega
  unfold readP
  rw [e1, e2, e3, e4, head_take l 60 (by decide)]
  simp only [l1, l2]
/-- The reader, by what is asked of a head alone. -/
theorem read_by (b : List UInt8) (wh : Bool) : readHM b wh = if (readP b).2.2 ≠ 0 then (Hd.zero, [], (readP b).2.2) else
    if allM b ≤ b.length then (if wh = true ∧ fitsM (hdM b) (allM b - hlenM b) = false then (Hd.zero, [], 5) else (hdM b, (b.take (allM b)).drop (hlenM b), 0)) else
    if wh = true then (Hd.zero, [], 4) else (hdM b, b.drop (hlenM b), 0) := by
  unfold readHM readP
  by_cases h1 : b.length < 20
  · simp [h1]
  by_cases h2 : (b.headD 0).toNat / 16 ≠ 4 ∨ hlenM b < 20
  · simp only [if_neg h1, if_pos h2, ne_eq, reduceCtorEq, not_false_eq_true, if_true]; simp
  by_cases h3 : b.length < hlenM b
  · simp only [if_neg h1, if_neg h2, if_pos h3]; simp
  by_cases h4 : allM b < hlenM b
  · simp only [if_neg h1, if_neg h2, if_neg h3, if_pos h4]; simp
  by_cases h5 : sumM (b.take (hlenM b)) ≠ 0
  · simp only [if_neg h1, if_neg h2, if_neg h3, if_neg h4, if_pos h5]; simp
  by_cases h6 : optsM ((b.take (hlenM b)).drop 20) = false
  · simp only [if_neg h1, if_neg h2, if_neg h3, if_neg h4, if_neg h5, if_pos h6]; simp
  simp only [if_neg h1, if_neg h2, if_neg h3, if_neg h4, if_neg h5, if_neg h6, ne_eq, not_true_eq_false, if_false]
theorem readP_ok (b : List UInt8) (h : (readP b).2.2 = 0) : (readP b).1 = hdM b ∧ (readP b).2.1 = allM b ∧ hlenM b ≤ allM b ∧ hlenM b ≤ b.length ∧ 20 ≤ hlenM b ∧ (hdM b).x.length = hlenM b - 20 := by
  unfold readP at h ⊢
  split at h
  · cases h
  split at h
  · cases h
  split at h
  · cases h
  split at h
  · cases h
  split at h
  · cases h
  split at h
  · cases h
  rename_i h1 h2 h3 h4 h5 h6
  rw [if_neg h1, if_neg h2, if_neg h3, if_neg h4, if_neg h5, if_neg h6]
  refine ⟨rfl, rfl, by omega, by omega, by omega, ?_⟩
  show ((b.take (hlenM b)).drop 20).length = _
  rw [List.length_drop, List.length_take]
  omega
theorem readP_bad (b : List UInt8) (h : (readP b).2.2 ≠ 0) : (readP b).1 = Hd.zero ∧ (readP b).2.1 = 0 := by
  unfold readP at h ⊢
  split
  · exact ⟨rfl, rfl⟩
  split
  · exact ⟨rfl, rfl⟩
  split
  · exact ⟨rfl, rfl⟩
  split
  · exact ⟨rfl, rfl⟩
  split
  · exact ⟨rfl, rfl⟩
  split
  · exact ⟨rfl, rfl⟩
  rename_i h1 h2 h3 h4 h5 h6
  rw [if_neg h1, if_neg h2, if_neg h3, if_neg h4, if_neg h5, if_neg h6] at h
  exact absurd rfl h
/-- The fields of a word. -/
theorem fld_w1 (a b c d : UInt8) : fldM (numM [a, b, c, d]) 0 4 = a.toNat / 16 ∧ fldM (numM [a, b, c, d]) 4 4 = a.toNat % 16 ∧ fldM (numM [a, b, c, d]) 8 8 = b.toNat ∧ fldM (numM [a, b, c, d]) 16 16 = numM [c, d] := by
  have ha := a.toNat_lt
  have hb := b.toNat_lt
  have hc := c.toNat_lt
  have hd := d.toNat_lt
  refine ⟨?_, ?_, ?_, ?_⟩ <;> (simp only [fldM, wrdM, numM, List.foldl_cons, List.foldl_nil]; omega)
theorem fld_w2 (a b c d : UInt8) : fldM (numM [a, b, c, d]) 0 16 = numM [a, b] ∧ (fldM (numM [a, b, c, d]) 16 1 = 1 ↔ 32768 ≤ numM [c, d]) ∧ (fldM (numM [a, b, c, d]) 17 1 = 1 ↔ numM [c, d] / 16384 % 2 = 1) ∧ (fldM (numM [a, b, c, d]) 18 1 = 1 ↔ numM [c, d] / 8192 % 2 = 1) ∧ fldM (numM [a, b, c, d]) 19 13 = numM [c, d] % 8192 := by
  have ha := a.toNat_lt
  have hb := b.toNat_lt
  have hc := c.toNat_lt
  have hd := d.toNat_lt
  refine ⟨?_, ?_, ?_, ?_, ?_⟩ <;> (simp only [fldM, wrdM, numM, List.foldl_cons, List.foldl_nil]; omega)
theorem fld_w3 (a b c d : UInt8) : fldM (numM [a, b, c, d]) 0 8 = a.toNat ∧ fldM (numM [a, b, c, d]) 8 8 = b.toNat := by
  have ha := a.toNat_lt
  have hb := b.toNat_lt
  have hc := c.toNat_lt
  have hd := d.toNat_lt
  refine ⟨?_, ?_⟩ <;> (simp only [fldM, wrdM, numM, List.foldl_cons, List.foldl_nil]; omega)
theorem fld_w4 (a b c d : UInt8) : fldM (numM [a, b, c, d]) 0 32 = numM [a, b, c, d] := by
  have ha := a.toNat_lt
  have hb := b.toNat_lt
  have hc := c.toNat_lt
  have hd := d.toNat_lt
  simp only [fldM, wrdM, numM, List.foldl_cons, List.foldl_nil]
  omega
theorem one_off (l : List UInt8) (n : Nat) (h : n + 1 ≤ l.length) : ∃ a r, l = a :: r ∧ n ≤ r.length := by
  match l, h with
  | a :: r, h => exact ⟨a, r, rfl, by simp at h; omega⟩
theorem twenty (l : List UInt8) (h : 20 ≤ l.length) : ∃ a0 a1 a2 a3 a4 a5 a6 a7 a8 a9 b0 b1 b2 b3 b4 b5 b6 b7 b8 b9 r, l = a0 :: a1 :: a2 :: a3 :: a4 :: a5 :: a6 :: a7 :: a8 :: a9 :: b0 :: b1 :: b2 :: b3 :: b4 :: b5 :: b6 :: b7 :: b8 :: b9 :: r := by
  obtain ⟨a0, r0, rfl, h0⟩ := one_off l 19 h
  obtain ⟨a1, r1, rfl, h1⟩ := one_off r0 18 h0
  obtain ⟨a2, r2, rfl, h2⟩ := one_off r1 17 h1
  obtain ⟨a3, r3, rfl, h3⟩ := one_off r2 16 h2
  obtain ⟨a4, r4, rfl, h4⟩ := one_off r3 15 h3
  obtain ⟨a5, r5, rfl, h5⟩ := one_off r4 14 h4
  obtain ⟨a6, r6, rfl, h6⟩ := one_off r5 13 h5
  obtain ⟨a7, r7, rfl, h7⟩ := one_off r6 12 h6
  obtain ⟨a8, r8, rfl, h8⟩ := one_off r7 11 h7
  obtain ⟨a9, r9, rfl, h9⟩ := one_off r8 10 h8
  obtain ⟨b0, r10, rfl, h10⟩ := one_off r9 9 h9
  obtain ⟨b1, r11, rfl, h11⟩ := one_off r10 8 h10
  obtain ⟨b2, r12, rfl, h12⟩ := one_off r11 7 h11
  obtain ⟨b3, r13, rfl, h13⟩ := one_off r12 6 h12
  obtain ⟨b4, r14, rfl, h14⟩ := one_off r13 5 h13
  obtain ⟨b5, r15, rfl, h15⟩ := one_off r14 4 h14
  obtain ⟨b6, r16, rfl, h16⟩ := one_off r15 3 h15
  obtain ⟨b7, r17, rfl, h17⟩ := one_off r16 2 h16
  obtain ⟨b8, r18, rfl, h18⟩ := one_off r17 1 h17
  obtain ⟨b9, r19, rfl, h19⟩ := one_off r18 0 h18
  exact ⟨a0, a1, a2, a3, a4, a5, a6, a7, a8, a9, b0, b1, b2, b3, b4, b5, b6, b7, b8, b9, r19, rfl⟩
/-- Where the cutter stands behind five words, and what they were. -/
structure Words (l : List UInt8) (s : Cst) (W1 W2 W3 W4 W5 : Nat) : Prop where
  no : l.length < 20 → s.er = 4
  yes : 20 ≤ l.length → s = ⟨l, 20, 0⟩ ∧ W1 = numM (l.take 4) ∧ W2 = numM ((l.drop 4).take 4) ∧ W3 = numM ((l.drop 8).take 4) ∧ W4 = numM ((l.drop 12).take 4) ∧ W5 = numM ((l.drop 16).take 4)
theorem words_of (l : List UInt8) {s1 s2 s3 s4 s5 : Cst} {W1 W2 W3 W4 W5 : Nat} (h1 : (takeM ⟨l, 0, 0⟩ 4).2 = s1) (v1 : numM (takeM ⟨l, 0, 0⟩ 4).1 = W1) (h2 : (takeM s1 4).2 = s2) (v2 : numM (takeM s1 4).1 = W2) (h3 : (takeM s2 4).2 = s3) (v3 : numM (takeM s2 4).1 = W3) (h4 : (takeM s3 4).2 = s4) (v4 : numM (takeM s3 4).1 = W4) (h5 : (takeM s4 4).2 = s5) (v5 : numM (takeM s4 4).1 = W5) : Words l s5 W1 W2 W3 W4 W5 := by
  constructor
  · intro hl
    have t1 := (took_start l).next 4
    have t2 := t1.next 4
    have t3 := t2.next 4
    have t4 := t3.next 4
    have t5 := t4.next 4
    subst h1 h2 h3 h4 h5
    exact t5.done (by omega)
  · intro hl
    have q1 : takeM ⟨l, 0, 0⟩ 4 = (l.take 4, ⟨l, 4, 0⟩) := takeM_ok l 0 4 (by omega)
    have q2 : takeM ⟨l, 4, 0⟩ 4 = ((l.drop 4).take 4, ⟨l, 8, 0⟩) := takeM_ok l 4 4 (by omega)
    have q3 : takeM ⟨l, 8, 0⟩ 4 = ((l.drop 8).take 4, ⟨l, 12, 0⟩) := takeM_ok l 8 4 (by omega)
    have q4 : takeM ⟨l, 12, 0⟩ 4 = ((l.drop 12).take 4, ⟨l, 16, 0⟩) := takeM_ok l 12 4 (by omega)
    have q5 : takeM ⟨l, 16, 0⟩ 4 = ((l.drop 16).take 4, ⟨l, 20, 0⟩) := takeM_ok l 16 4 (by omega)
    rw [q1] at h1 v1
    simp only at h1 v1
    subst h1
    rw [q2] at h2 v2
    simp only at h2 v2
    subst h2
    rw [q3] at h3 v3
    simp only at h3 v3
    subst h3
    rw [q4] at h4 v4
    simp only at h4 v4
    subst h4
    rw [q5] at h5 v5
    simp only at h5 v5
    exact ⟨h5.symm, v1.symm, v2.symm, v3.symm, v4.symm, v5.symm⟩
/-- What the fields of five words say. -/
theorem fields_of (l : List UInt8) (h : 20 ≤ l.length) {W1 W2 W3 W4 W5 : Nat} (e1 : W1 = numM (l.take 4)) (e2 : W2 = numM ((l.drop 4).take 4)) (e3 : W3 = numM ((l.drop 8).take 4)) (e4 : W4 = numM ((l.drop 12).take 4)) (e5 : W5 = numM ((l.drop 16).take 4)) {t ttl p : UInt8} {e d m : Bool}
    (ht : fldM W1 8 8 = t.toNat) (hl : fldM W3 0 8 = ttl.toNat) (hp : fldM W3 8 8 = p.toNat) (he : ((fldM W2 16 1 : Int) == 1) = e) (hd : ((fldM W2 17 1 : Int) == 1) = d) (hm : ((fldM W2 18 1 : Int) == 1) = m) :
    fldM W1 0 4 = (l.headD 0).toNat / 16 ∧ 4 * fldM W1 4 4 = hlenM l ∧ fldM W1 16 16 = allM l ∧ (⟨t, ttl, p, fldM W2 0 16, e, d, m, (fldM W2 19 13 : Int), fldM W4 0 32, fldM W5 0 32, (l.take (hlenM l)).drop 20⟩ : Hd) = hdM l := by
  obtain ⟨a0, a1, a2, a3, a4, a5, a6, a7, a8, a9, b0, b1, b2, b3, b4, b5, b6, b7, b8, b9, r, rfl⟩ := twenty l h
  have f1 := fld_w1 a0 a1 a2 a3
  have f2 := fld_w2 a4 a5 a6 a7
  have f3 := fld_w3 a8 a9 b0 b1
  have f4 := fld_w4 b2 b3 b4 b5
  have f5 := fld_w4 b6 b7 b8 b9
  have i1 : W1 = numM [a0, a1, a2, a3] := e1
  have i2 : W2 = numM [a4, a5, a6, a7] := e2
  have i3 : W3 = numM [a8, a9, b0, b1] := e3
  have i4 : W4 = numM [b2, b3, b4, b5] := e4
  have i5 : W5 = numM [b6, b7, b8, b9] := e5
  subst i1 i2 i3 i4 i5
  have bt : t = a1 := UInt8.toNat_inj.1 (by rw [← ht, f1.2.2.1])
  have bl : ttl = a8 := UInt8.toNat_inj.1 (by rw [← hl, f3.1])
  have bp : p = a9 := UInt8.toNat_inj.1 (by rw [← hp, f3.2])
  have be : e = decide (32768 ≤ numM [a6, a7]) := by
    rw [← he, Bool.eq_iff_iff, decide_eq_true_eq, ← f2.2.1]
    simp only [beq_iff_eq]
    omega
  have bd : d = decide (numM [a6, a7] / 16384 % 2 = 1) := by
    rw [← hd, Bool.eq_iff_iff, decide_eq_true_eq, ← f2.2.2.1]
    simp only [beq_iff_eq]
    omega
  have bm : m = decide (numM [a6, a7] / 8192 % 2 = 1) := by
    rw [← hm, Bool.eq_iff_iff, decide_eq_true_eq, ← f2.2.2.2.1]
    simp only [beq_iff_eq]
    omega
  refine ⟨f1.1, ?_, f1.2.2.2, ?_⟩
  · rw [f1.2.1]; rfl
  · rw [bt, bl, bp, be, bd, bm, f2.1, f2.2.2.2.2, f4, f5]
    rfl
end Go.Proofs.Ytkpelaojjfcpfaa
