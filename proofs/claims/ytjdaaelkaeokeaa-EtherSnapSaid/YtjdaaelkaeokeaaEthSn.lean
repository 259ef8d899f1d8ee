/- tolllaw04.EtherSnap: the walk. -/
import Derived.Test.YtjdaaelkaeokeaaEthBk
import Derived.Test.YtjdaaelkaeokeaaEthW
import Derived.Test.YtjdaaelkaeokeaaEthJ
namespace Go.Proofs.Ytjdaaelkaeokeaa
open Go.RowKit Go.Sort
set_option linter.unusedVariables false

theorem bys_flat (l : List UInt8) : (l.map fun x => [Value.int .u8 (x.toNat : Int)]).flatten = bys l := by
  induction l with
  | nil => rfl
  | cons x l ih => simp only [List.map_cons, List.flatten_cons, ih]; rfl
theorem own_bytes {w : World} (l : List UInt8) (t : TypeId) (cs : Array Value) (hc : cs = (bys l).toArray) (n : Nat) (hn : l.length = n) (b : Nat) (hb : b = w.heap.size) (B : Nat) (hB : B ≤ w.heap.size) (h : l.length ≤ maxLen) :
    (w.alloc (.cells cs t)).ownsRow B t 1 (.slice (some ⟨b, 0, none⟩) n n) n (bys l) := by
  have := own_lit (w := w) (s := 1) (l.map fun x => [Value.int .u8 (x.toNat : Int)]) t (by intro r hr; obtain ⟨x, _, rfl⟩ := List.mem_map.1 hr; rfl) (by rw [List.length_map]; exact h) cs (by rw [bys_flat]; exact hc) n (by rw [List.length_map]; exact hn) b hb B hB
  rwa [bys_flat] at this
theorem two_cells (T : Nat) (h : T ≤ 65535) : bys (twoM T) = [.int .u8 ((T : Int) / 256), .int .u8 ((T : Int) % 256)] := by
  have e1 : (UInt8.ofNat (T / 256)).toNat = T / 256 := by rw [UInt8.toNat_ofNat']; omega
  have e2 : (UInt8.ofNat T).toNat = T % 256 := by rw [UInt8.toNat_ofNat']
  show [Value.int .u8 ((UInt8.ofNat (T / 256)).toNat : Int), Value.int .u8 ((UInt8.ofNat T).toNat : Int)] = _
  rw [e1, e2]
  simp
theorem withM_nil_len (d s b : List UInt8) : (withM d s [] b).length = d.length + s.length + b.length := by
  have e : withM d s [] b = d ++ s ++ [] ++ b := rfl
  rw [e]
  simp only [List.length_append, List.length_nil, Nat.add_zero]
theorem NewF.past {w0 w w' : World} {f : Fr} {vt vb vr : Value} {F : Nat → Prop} (h : NewF w0 w f vt vb vr) (k : Kept F w w') (hF : ∀ i, F i → i < w0.heap.size) : NewF w0 w' f vt vb vr := by
  obtain ⟨⟨A, n, c, e, ht, h1⟩, ⟨A1, n1, c1, e1, hb, h2⟩, ⟨A2, n2, c2, e2, hr, h3⟩⟩ := h
  exact ⟨⟨A, n, c, e, ht.kept k (fun i hi hf => by have := h1 i hi; have := hF i hf; omega), h1⟩, ⟨A1, n1, c1, e1, hb.kept k (fun i hi hf => by have := h2 i hi; have := hF i hf; omega), h2⟩, ⟨A2, n2, c2, e2, hr.kept k (fun i hi hf => by have := h3 i hi; have := hF i hf; omega), h3⟩⟩
theorem Kept.fresh8 {F : Nat → Prop} {a b c : World} (h : Kept Nil a b) (k : Kept F b c) (hF : ∀ i, F i → a.heap.size ≤ i) : Kept Nil a c := h.trans k (fun i hi hf => absurd hi (Nat.not_lt.2 (hF i hf)))
def dA : List UInt8 := [2, 0, 0, 0, 0, 0]
def sA : List UInt8 := [4, 0, 0, 0, 0, 0]
def snF1 (T : Nat) (b : List UInt8) : Fr := ⟨dA, sA, [], 1, (T : Int), z3, z3, b, []⟩
def snF2 (T : Nat) (b o r : List UInt8) : Fr := ⟨dA, sA, [], 3, (T : Int), snapL, o, b, r⟩
theorem snF1_ok (T : Nat) (b : List UInt8) (h : T ≤ 65535) : (snF1 T b).ok := ⟨rfl, rfl, fun _ h => (by cases h), ⟨by simp only [snF1]; omega, by simp only [snF1]; omega⟩, ⟨by simp only [snF1]; omega, by simp only [snF1]; omega⟩, rfl, rfl⟩
theorem snF2_ok (T : Nat) (b o r : List UInt8) (h : T ≤ 65535) (ho : o.length = 3) : (snF2 T b o r).ok := ⟨rfl, rfl, fun _ h => (by cases h), ⟨by simp only [snF2]; omega, by simp only [snF2]; omega⟩, ⟨by simp only [snF2]; omega, by simp only [snF2]; omega⟩, rfl, ho⟩
theorem sn_get1 (T : Nat) (b : List UInt8) (h1 : 1536 ≤ T) (h2 : T ≤ 65535) (n1 : T ≠ 33024) (n2 : T ≠ 34984) (hb : b.length ≤ 1492) : ∃ z, getM (withM dA sA [] (twoM T ++ b)) = (snF1 T b, z, 0) := by
  have hc : carryM (snF1 T b) = true := by
    have hs : standM T (0 : Int) = false := by simp [standM, n1, n2]
    unfold carryM
    rw [if_pos (show (snF1 T b).k = 1 from rfl)]
    show (decide (1536 ≤ (T : Int)) && decide ((T : Int) ≤ 65535) && !standM ((T : Int).toNat) (0 : Int) && decide (z3 = z3) && decide (z3 = z3) && decide (([] : List UInt8).length = 0)) = true
    rw [Int.toNat_natCast, hs, decide_eq_true (show (1536 : Int) ≤ (T : Int) by omega), decide_eq_true (show (T : Int) ≤ 65535 by omega)]
    rfl
  have he : headM (snF1 T b) = twoM T := by simp [headM, snF1]
  have := get_with (snF1 T b) (snF1_ok T b h2) dA sA [] rfl rfl (by decide) hc (by rw [List.append_assoc]; exact head_next (snF1 T b) hc _) (by rw [he]; simp [dA, sA, bytTs, twoM, snF1]; omega)
  rw [he] at this
  refine ⟨bytTs [] ++ (twoM T ++ (snF1 T b).b ++ (snF1 T b).r), ?_⟩
  have e : withM dA sA [] (twoM T ++ b) = dA ++ sA ++ bytTs [] ++ (twoM T ++ (snF1 T b).b ++ (snF1 T b).r) := by
    show dA ++ sA ++ bytesM [] ++ (twoM T ++ b) = dA ++ sA ++ bytTs [] ++ (twoM T ++ b ++ [])
    rw [List.append_nil]
    rfl
  rw [e]
  exact this
theorem sn_get2 (T : Nat) (b o r : List UInt8) (h2 : T ≤ 65535) (hb : b.length ≤ 1492) (hr : r.length ≤ 60) (ho : o.length = 3) : ∃ z, getM (withM dA sA [] (twoM (8 + b.length) ++ snapL ++ o ++ twoM T ++ b ++ r)) = (snF2 T b o r, z, 0) := by
  have hc : carryM (snF2 T b o r) = true := by
    unfold carryM
    rw [if_neg (show ¬ (snF2 T b o r).k = 1 by simp [snF2]), if_neg (show ¬ (snF2 T b o r).k = 2 by simp [snF2]), if_pos (show (snF2 T b o r).k = 3 from rfl)]
    show (decide (0 ≤ (T : Int)) && decide ((T : Int) ≤ 65535) && decide (snapL = snapL) && decide (8 + b.length ≤ 1500)) = true
    rw [decide_eq_true (show (0 : Int) ≤ (T : Int) by omega), decide_eq_true (show (T : Int) ≤ 65535 by omega), decide_eq_true (show 8 + b.length ≤ 1500 by omega)]
    rfl
  have he : headM (snF2 T b o r) = twoM (8 + b.length) ++ snapL ++ o ++ twoM T := by simp [headM, snF2]
  have := get_with (snF2 T b o r) (snF2_ok T b o r h2 ho) dA sA [] rfl rfl (by decide) hc (by rw [List.append_assoc]; exact head_next (snF2 T b o r) hc _) (by rw [he]; simp [dA, sA, bytTs, twoM, snF2, snapL]; omega)
  rw [he] at this
  exact ⟨_, this⟩
set_option maxRecDepth 100000 in
set_option maxHeartbeats 8000000 in
theorem esnap_yes (a : Int) (B : Option Addr) (nb cb : Nat) (bl : List UInt8) (R : Option Addr) (nr cr : Nat) (rl : List UInt8) (o : List UInt8) (w : World) (ha : 0 ≤ a ∧ a ≤ 65535) (hb : Byt w B nb cb bl) (hr : Byt w R nr cr rl) (ho : o.length = 3) :
    Calls Try.prog 7 #[.int .u16 a, .slice B nb cb, .slice R nr cr, .agg (bys o).toArray] w fun e w' => e = .returned (.bool true) ∧ Below w.heap.size w w' := by
  obtain ⟨o0, o1, o2, rfl⟩ := len3 ho
  obtain ⟨T, hT, hT1, hT2⟩ : ∃ T : Nat, (if (a : Int) < 1536 then (1536 : Int) else a) = (T : Int) ∧ 1536 ≤ T ∧ T ≤ 65535 := ⟨(max a 1536).toNat, by split <;> omega, by omega, by omega⟩
  have hsb := hb.2.1
  have hsr := hr.2.1
  obtain ⟨mb, hmb, hmb1, hmb2⟩ : ∃ m : Nat, (if (1492 : Int) < (nb : Int) then (1492 : Int) else (nb : Int)) = (m : Int) ∧ m ≤ nb ∧ m ≤ 1492 := ⟨min nb 1492, by split <;> omega, by omega, by omega⟩
  obtain ⟨mr, hmr, hmr1, hmr2⟩ : ∃ m : Nat, (if (60 : Int) < (nr : Int) then (60 : Int) else (nr : Int)) = (m : Int) ∧ m ≤ nr ∧ m ≤ 60 := ⟨min nr 60, by split <;> omega, by omega, by omega⟩
  have hslb := run_cut_hi (P := Try.prog) Try.underlying26 inf5.1 B nb cb mb (mb : Int) rfl (by omega)
  have hslr := run_cut_hi (P := Try.prog) Try.underlying26 inf5.1 R nr cr mr (mr : Int) rfl (by omega)
  go_enter Try.func7, Try.ntmps7
  go_upto_region 2 with (fail)
  have hk0 := (Kept.refl Nil w).alloc (.cells (bys [o0, o1, o2]).toArray 25)
  refine wp_nameE (fun W => Blo W w.heap.size 25 (bys [o0, o1, o2]).toArray ∧ Kept Nil w W ∧ Byt W B mb cb (bl.take mb) ∧ Byt W R mr cr (rl.take mr)) ⟨Blo.new _ _ _, hk0, (hb.kept hk0 (fun _ _ hf => hf)).pre hmb1, (hr.kept hk0 (fun _ _ hf => hf)).pre hmr1⟩ ?_
  rintro W ⟨hO, hk, hb', hr'⟩
  generalize bl.take mb = b at *
  generalize rl.take mr = r at *
  have HO := Lib.hid hO
  have HK := Lib.hid hk
  have HB := Lib.hid hb'
  have HR := Lib.hid hr'
  have HMB := Lib.hid hmb2
  have HMR := Lib.hid hmr2
  clear hO hk hb' hr' hb hr hk0 hT hmb1 hmb2 hmr1 hmr2 hsb hsr ha ho
  refine wp_region_quiet_below (by kernel_rfl) (by kernel_rfl) ?_
  repeat (go_big_quiet_step (fail))
  refine wpQuiet_nil ?_
  rintro w2 ⟨nq, hw⟩
  have hk2 : Kept Nil W w2 := by rw [hw]; exact kept_grown _ _
  have HO2 := Lib.hid (HO.out.kept hk2 (fun hf => hf))
  have HB2 := Lib.hid (HB.out.kept hk2 (fun _ _ hf => hf))
  have HR2 := Lib.hid (HR.out.kept hk2 (fun _ _ hf => hf))
  have HK2 := Lib.hid (HK.out.then hk2)
  clear hk2 hw HO HB HR HK hslb hslr hmb hmr
  by_cases hq : T = 33024
  · subst hq
    go_wp2_with (fail)
    refine (tells_yes _).mono ?_
    rintro e w3 ⟨rfl, hk3⟩
    have HK3 := Lib.hid (HK2.out.then hk3)
    clear hk3
    go_wp2
    go_ret
    exact ⟨rfl, HK3.out.below (Nat.le_refl _) (fun _ hf => hf.elim)⟩
  · by_cases hq2 : T = 34984
    · subst hq2
      go_wp2_with (fail)
      refine (tells_yes _).mono ?_
      rintro e w3 ⟨rfl, hk3⟩
      have HK3 := Lib.hid (HK2.out.then hk3)
      clear hk3
      go_wp2
      go_ret
      exact ⟨rfl, HK3.out.below (Nat.le_refl _) (fun _ hf => hf.elim)⟩
    · have hb1 : ((T : Int) == 33024) = false := by simp; omega
      have hb2 : ((T : Int) == 34984) = false := by simp; omega
      have HQ1 := Lib.hid hq
      have HQ2 := Lib.hid hq2
      clear hq hq2
      obtain ⟨i0, hi, hz0, hz1, hz2⟩ := info_parts Try.infb
      have HS2 := Lib.hid (show w2.heap.size ≤ (w2.alloc (.cells #[.int .u8 ((T : Int) / 256), .int .u8 ((T : Int) % 256)] 5)).heap.size by simp)
      have HA1 := Lib.hid (own_bytes (w := w2) (twoM T) 5 #[.int .u8 ((T : Int) / 256), .int .u8 ((T : Int) % 256)] (by rw [two_cells T hT2]) 2 rfl _ rfl w2.heap.size (Nat.le_refl _) (show 2 ≤ maxLen by decide))
      have HKA := Lib.hid ((Kept.refl Nil w2).alloc (.cells #[.int .u8 ((T : Int) / 256), .int .u8 ((T : Int) % 256)] 5))
      have HB3 := Lib.hid (HB2.out.kept HKA.out (fun _ _ hf => hf))
      go_upto_region 6 with (at_builtin; refine wpList_any rfl _ _ 26 rfl w2.heap.size 5 i0 (.int .u8 0) Try.underlying26 hi hz0 hz1 hz2 rfl _ 2 _ rfl HA1.out B mb cb b rfl HB3.out (by have := HMB.out; omega) HS2.out ?_; intro v1 w3 hown1 hgr1 hob1; clear hob1; have HO1 := Lib.hid hown1; have HG1 := Lib.hid hgr1; obtain ⟨N1, hN1⟩ : ∃ N1, 2 + mb = N1 := ⟨_, rfl⟩; have HN1 := Lib.hid hN1; rw [hN1] at hown1; obtain ⟨A1, c1, rfl⟩ := own_form hown1; clear hown1 hgr1 hN1)
      clear hb1 hb2
      have hkA : Kept Nil w2 w3 := HKA.out.grown HG1.out (fun k hk hlt => by cases hk; exact absurd hlt (Nat.lt_irrefl _))
      have hO3 : Blo w3 w.heap.size 25 #[.int .u8 (o0.toNat : Int), .int .u8 (o1.toNat : Int), .int .u8 (o2.toNat : Int)] := HO2.out.kept hkA (fun hf => hf)
      have c0 := hO3.cell 0
      have c1' := hO3.cell 1
      have c2 := hO3.cell 2
      simp at c0 c1' c2
      have HO3 := Lib.hid hO3
      have HB4 := Lib.hid (HB2.out.kept hkA (fun _ _ hf => hf))
      have HR4 := Lib.hid (HR2.out.kept hkA (fun _ _ hf => hf))
      have HK4 := Lib.hid (HK2.out.then hkA)
      obtain ⟨Ay, cy, ey, hy1, _⟩ := Byt.of_own (n := N1) (l := twoM T ++ b) (by rw [bys_app, ← HN1.out]; have := HO1.out; rw [HN1.out] at this ⊢; exact this)
      cases ey
      have HY1 := Lib.hid hy1
      have HOLT := Lib.hid hO3.lt
      have HBLT := Lib.hid HB4.out.lt
      have HRLT := Lib.hid HR4.out.lt
      have HWLE := Lib.hid HK4.out.size
      clear hO3 hkA hy1 HO1 HG1 HKA HS2 HA1 HO2 HB2 HB3 HR2 HK2
      have hblen : b.length = mb := HB4.out.1
      obtain ⟨M8, hM8⟩ : ∃ M : Nat, 8 + mb = M := ⟨_, rfl⟩
      have hw8 : wrap64 ((mb : Int) + 8) = (M8 : Int) := by rw [← hM8]; unfold wrap64; have := HMB.out; omega
      have hM9 : M8 ≤ 1500 := by have := HMB.out; omega
      have HM8 := Lib.hid hM8
      have HBLEN := Lib.hid hblen
      clear hM8 hblen
      have HS3 := Lib.hid (show w3.heap.size ≤ (w3.alloc (.cells #[.int .u8 ((M8 : Int) / 256), .int .u8 ((M8 : Int) % 256), .int .u8 170, .int .u8 170, .int .u8 3, .int .u8 (o0.toNat : Int), .int .u8 (o1.toNat : Int), .int .u8 (o2.toNat : Int), .int .u8 ((T : Int) / 256), .int .u8 ((T : Int) % 256)] 5)).heap.size by simp)
      have HA3 := Lib.hid (own_bytes (w := w3) (twoM M8 ++ snapL ++ [o0, o1, o2] ++ twoM T) 5 #[.int .u8 ((M8 : Int) / 256), .int .u8 ((M8 : Int) % 256), .int .u8 170, .int .u8 170, .int .u8 3, .int .u8 (o0.toNat : Int), .int .u8 (o1.toNat : Int), .int .u8 (o2.toNat : Int), .int .u8 ((T : Int) / 256), .int .u8 ((T : Int) % 256)] (by rw [bys_app, bys_app, bys_app, two_cells T hT2, two_cells M8 (by omega)]; rfl) 10 rfl _ rfl w3.heap.size (Nat.le_refl _) (show 10 ≤ maxLen by decide))
      have HKC := Lib.hid ((Kept.refl Nil w3).alloc (.cells #[.int .u8 ((M8 : Int) / 256), .int .u8 ((M8 : Int) % 256), .int .u8 170, .int .u8 170, .int .u8 3, .int .u8 (o0.toNat : Int), .int .u8 (o1.toNat : Int), .int .u8 (o2.toNat : Int), .int .u8 ((T : Int) / 256), .int .u8 ((T : Int) % 256)] 5))
      have HB5 := Lib.hid (HB4.out.kept HKC.out (fun _ _ hf => hf))
      go_upto_region 8 with (at_builtin; refine wpList_any rfl _ _ 26 rfl w3.heap.size 5 i0 (.int .u8 0) Try.underlying26 hi hz0 hz1 hz2 rfl _ 10 _ rfl HA3.out B mb cb b rfl HB5.out (by have := HMB.out; omega) HS3.out ?_; intro v2 w4 hown2 hgr2 hob2; clear hob2; have HO2 := Lib.hid hown2; have HG2 := Lib.hid hgr2; obtain ⟨N2, hN2⟩ : ∃ N2, 10 + mb = N2 := ⟨_, rfl⟩; have HN2 := Lib.hid hN2; rw [hN2] at hown2; obtain ⟨A2, c2', rfl⟩ := own_form hown2; clear hown2 hgr2 hN2)
      have hkC : Kept Nil w3 w4 := HKC.out.grown HG2.out (fun k hk hlt => by cases hk; exact absurd hlt (Nat.lt_irrefl _))
      have HO4 := Lib.hid (HO3.out.kept hkC (fun hf => hf))
      have HB6 := Lib.hid (HB4.out.kept hkC (fun _ _ hf => hf))
      have HR6 := Lib.hid (HR4.out.kept hkC (fun _ _ hf => hf))
      have HY2 := Lib.hid (HY1.out.kept hkC (fun _ _ hf => hf))
      have HK6 := Lib.hid (HK4.out.then hkC)
      have ho2 := HO2.out
      rw [HN2.out, ← bys_app] at ho2
      have HOW := Lib.hid ho2
      have HLT := Lib.hid (show w3.heap.size ≤ w4.heap.size from hkC.size)
      clear hkC ho2 HO2 HG2 HKC HS3 HA3 HO3 HB4 HB5 HR4 HY1 HK4 c0 c1' c2 hw8
      go_wp2_with (fail)
      refine (with_yes dA sA rfl rfl none 0 0 [] A1 N1 c1 (twoM T ++ b) w4 (Tags.nil _) HY2.out (by decide) (by have := HN1.out; have := HMB.out; omega)).mono ?_
      rintro e w5 ⟨v3, rfl, hm⟩
      obtain ⟨z1, hg1⟩ := sn_get1 T b hT1 hT2 HQ1.out HQ2.out (by rw [HBLEN.out]; exact HMB.out)
      have hxl : (withM dA sA [] (twoM T ++ b)).length ≤ 100000 := by rw [withM_nil_len, List.length_append, HBLEN.out]; have := HMB.out; simp [twoM, dA, sA]; omega
      generalize withM dA sA [] (twoM T ++ b) = x1 at *
      obtain ⟨A3, c3, rfl⟩ := own_form hm.1
      obtain ⟨A3', c3', e3, hy3, _⟩ := Byt.of_own hm.1
      cases e3
      have HY3 := Lib.hid hy3
      have HXL := Lib.hid hxl
      have HG1 := Lib.hid hg1
      have HO5 := Lib.hid (HO4.out.kept hm.2 (fun hf => hf))
      have HB7 := Lib.hid (HB6.out.kept hm.2 (fun _ _ hf => hf))
      have HR7 := Lib.hid (HR6.out.kept hm.2 (fun _ _ hf => hf))
      have HOW5 := Lib.hid (own_kept HOW.out hm.2 (fun _ _ hf => hf))
      have HOWL := Lib.hid (fun i (hi : (Value.slice A2 N2 c2').ownBlock = some i) => HOW.out.lt i hi)
      have HK7 := Lib.hid (HK6.out.then hm.2)
      have HSZ5 := Lib.hid hm.2.size
      clear hm hy3 hxl hg1 HOW HO4 HB6 HR6 HY2 HK6
      go_wp2_with (fail)
      refine (eget_yes A3 _ c3 x1 w5 HY3.out (by have := HXL.out; omega)).mono ?_
      rintro e w6 ⟨pt, pb, pr, rfl, hnf, hk⟩
      rw [HG1.out] at hnf ⊢
      simp only at hnf ⊢
      have F1six : (snF1 T b).six := ⟨rfl, rfl, rfl, rfl⟩
      have HNF6 := Lib.hid hnf
      have HK56 := Lib.hid hk
      have HFN := Lib.hid (FB.new w6 28 Fr.zero nilv nilv nilv)
      clear hnf hk HY3 HXL HG1
      go_upto_region 9 with (refine wpList_st rfl _ (.tmp 12) _ rfl _ 0 rfl (fcs (snF1 T b) pt pb pr) _ rfl rfl (by rw [fcs_len F1six]; exact infF) 28 _ HFN.out (by rw [fcs_len Fr.zero_six, fcs_len F1six]; omega) HNF6.out.ones ?_; intro w7 hb7 hk7 hz7)
      have hk67 := ((Kept.refl Nil w6).alloc (.cells (fcs Fr.zero nilv nilv nilv).toArray 28)).fresh hk7 (fun i hi => by cases hi; exact Nat.le_refl _)
      have hk57 := HK56.out.then hk67
      have HP7 := Lib.hid (FB.of_all (f' := snF1 T b) Fr.zero_six F1six hb7)
      have HNF7 := Lib.hid (HNF6.out.kept hk67)
      have HO7 := Lib.hid (HO5.out.kept hk57 (fun hf => hf))
      have HB8 := Lib.hid (HB7.out.kept hk57 (fun _ _ hf => hf))
      have HR8 := Lib.hid (HR7.out.kept hk57 (fun _ _ hf => hf))
      have HOW7 := Lib.hid (own_kept HOW5.out hk57 (fun _ _ hf => hf))
      have HK8 := Lib.hid (HK7.out.then hk57)
      have HSZ6 := Lib.hid HK56.out.size
      have HLT7 := Lib.hid (show w3.heap.size ≤ w7.heap.size from Nat.le_trans HLT.out (Nat.le_trans HSZ5.out hk57.size))
      clear hb7 hk7 hz7 hk67 hk57 HFN HNF6 HK56 HO5 HB7 HR7 HOW5 HK7
      go_wp2_with (at_builtin; refine wpList_any rfl _ _ 26 rfl w3.heap.size 5 i0 (.int .u8 0) Try.underlying26 hi hz0 hz1 hz2 rfl _ N2 _ rfl HOW7.out R mr cr r rfl HR8.out (by have := HMB.out; have := HMR.out; have := HN2.out; omega) HLT7.out ?_; intro v4 w8 hown4 hgr4 hob4; clear hob4; have HO8 := Lib.hid hown4; have HG8 := Lib.hid hgr4; obtain ⟨N3, hN3⟩ : ∃ N3, N2 + mr = N3 := ⟨_, rfl⟩; have HN3 := Lib.hid hN3; rw [hN3] at hown4; obtain ⟨A4, c4, rfl⟩ := own_form hown4; clear hown4 hgr4 hN3)
      have hk78 : Kept (fun i => w3.heap.size ≤ i ∧ i < w4.heap.size) w7 w8 := (Kept.refl _ w7).grown HG8.out (fun k hk _ => HOWL.out k hk)
      have hwlt : w.heap.size < w3.heap.size := HOLT.out
      have HO9 := Lib.hid (HO7.out.kept hk78 (fun hf => by have := hf.1; omega))
      have HB9 := Lib.hid (HB8.out.kept hk78 (fun i hi hf => by have := HBLT.out i hi; have := hf.1; omega))
      have HR9 := Lib.hid (HR8.out.kept hk78 (fun i hi hf => by have := HRLT.out i hi; have := hf.1; omega))
      have HP8 := Lib.hid (HP7.out.kept hk78 (fun hf => by have := hf.2; have := HSZ5.out; have := HSZ6.out; omega))
      have HNF8 := Lib.hid (HNF7.out.past hk78 (fun i hi => by have := hi.2; have := HSZ5.out; omega))
      have HK9 := Lib.hid (HK8.out.fresh8 hk78 (fun i hi => by have := hi.1; have := HWLE.out; omega))
      have ho8 := HO8.out
      rw [HN3.out, ← bys_app] at ho8
      obtain ⟨A4', c4', e4, hy4, _⟩ := Byt.of_own ho8
      cases e4
      have HY4 := Lib.hid hy4
      clear hwlt hk78 ho8 hy4 HO7 HB8 HR8 HP7 HNF7 HK8 HO8 HG8 HOW7 HLT7
      go_wp2_with (fail)
      refine (with_yes dA sA rfl rfl none 0 0 [] A4 N3 c4 _ w8 (Tags.nil _) HY4.out (by decide) (by have := HN2.out; have := HN3.out; have := HMB.out; have := HMR.out; omega)).mono ?_
      rintro e w9 ⟨v5, rfl, hm⟩
      obtain ⟨z2, hg2⟩ := sn_get2 T b [o0, o1, o2] r hT2 (by rw [HBLEN.out]; exact HMB.out) (by rw [HR9.out.1]; exact HMR.out) rfl
      rw [HBLEN.out, HM8.out] at hg2
      have hxl : (withM dA sA [] (twoM M8 ++ snapL ++ [o0, o1, o2] ++ twoM T ++ b ++ r)).length ≤ 100000 := by rw [withM_nil_len, List.length_append, List.length_append, HBLEN.out, HR9.out.1]; have := HMB.out; have := HMR.out; simp [twoM, dA, sA, snapL]; omega
      generalize withM dA sA [] (twoM M8 ++ snapL ++ [o0, o1, o2] ++ twoM T ++ b ++ r) = x2 at *
      obtain ⟨A5, c5, rfl⟩ := own_form hm.1
      obtain ⟨A5', c5', e5, hy5, _⟩ := Byt.of_own hm.1
      cases e5
      have HY5 := Lib.hid hy5
      have HXL := Lib.hid hxl
      have HG2 := Lib.hid hg2
      have HO10 := Lib.hid (HO9.out.kept hm.2 (fun hf => hf))
      have HB10 := Lib.hid (HB9.out.kept hm.2 (fun _ _ hf => hf))
      have HR10 := Lib.hid (HR9.out.kept hm.2 (fun _ _ hf => hf))
      have HP9 := Lib.hid (HP8.out.kept hm.2 (fun hf => hf))
      have HNF9 := Lib.hid (HNF8.out.kept hm.2)
      have HK10 := Lib.hid (HK9.out.then hm.2)
      clear hm hy5 hxl hg2 HO9 HB9 HR9 HP8 HNF8 HK9 HY4
      go_wp2_with (fail)
      refine (eget_yes A5 _ c5 x2 w9 HY5.out (by have := HXL.out; omega)).mono ?_
      rintro e w10 ⟨qt, qb, qr, rfl, hnf, hk⟩
      rw [HG2.out] at hnf ⊢
      simp only at hnf ⊢
      have F2six : (snF2 T b [o0, o1, o2] r).six := ⟨rfl, rfl, rfl, rfl⟩
      have HNG10 := Lib.hid hnf
      have HK910 := Lib.hid hk
      have HFN := Lib.hid (FB.new w10 28 Fr.zero nilv nilv nilv)
      clear hnf hk HY5 HXL HG2
      go_upto_region 10 with (refine wpList_st rfl _ (.tmp 14) _ rfl _ 0 rfl (fcs (snF2 T b [o0, o1, o2] r) qt qb qr) _ rfl rfl (by rw [fcs_len F2six]; exact infF) 28 _ HFN.out (by rw [fcs_len Fr.zero_six, fcs_len F2six]; omega) HNG10.out.ones ?_; intro w11 hb11 hk11 hz11)
      have hk1011 := ((Kept.refl Nil w10).alloc (.cells (fcs Fr.zero nilv nilv nilv).toArray 28)).fresh hk11 (fun i hi => by cases hi; exact Nat.le_refl _)
      have hk911 := HK910.out.then hk1011
      have HQ11 := Lib.hid (FB.of_all (f' := snF2 T b [o0, o1, o2] r) Fr.zero_six F2six hb11)
      have HFI1 := Lib.hid ((HNF9.out.kept hk911).frIn (snF1_ok T b hT2) (by simp [snF1]) (by show b.length ≤ 1000000; rw [HBLEN.out]; have := HMB.out; omega) (by simp [snF1]))
      have HFI2 := Lib.hid ((HNG10.out.kept hk1011).frIn (snF2_ok T b [o0, o1, o2] r hT2 rfl) (by simp [snF2]) (by show b.length ≤ 1000000; rw [HBLEN.out]; have := HMB.out; omega) (by show r.length ≤ 1000000; rw [HR10.out.1]; have := HMR.out; omega))
      have HO11 := Lib.hid (HO10.out.kept hk911 (fun hf => hf))
      have HB11 := Lib.hid (HB10.out.kept hk911 (fun _ _ hf => hf))
      have HR11 := Lib.hid (HR10.out.kept hk911 (fun _ _ hf => hf))
      have HP11 := Lib.hid (HP9.out.kept hk911 (fun hf => hf))
      have HK11 := Lib.hid (HK10.out.then hk911)
      clear hb11 hk11 hz11 hk1011 hk911 HFN HNG10 HNF9 HK910 HO10 HB10 HR10 HP9 HK10
      go_wp2_with (refine wpList_ld rfl _ (.tmp 12) rfl _ 0 rfl _ HP11.out.all _ Try.underlying28 rfl (by rw [fcs_len F1six]; exact infF) ?_)
      refine (proto_yes (snF1 T b) pt pb pr w11 HFI1.out).mono ?_
      rintro e w12 ⟨v6, rfl, hm⟩
      rw [show protoM (snF1 T b) = ((T : Int), b, true) from if_pos (.inl rfl)] at hm ⊢
      simp only at hm ⊢
      obtain ⟨A6, c6, rfl⟩ := own_form hm.1
      obtain ⟨A6', c6', e6, hy6, _⟩ := Byt.of_own hm.1
      cases e6
      have HY6 := Lib.hid hy6
      have HFI3 := Lib.hid (HFI2.out.kept hm.2)
      have HO12 := Lib.hid (HO11.out.kept hm.2 (fun hf => hf))
      have HB12 := Lib.hid (HB11.out.kept hm.2 (fun _ _ hf => hf))
      have HR12 := Lib.hid (HR11.out.kept hm.2 (fun _ _ hf => hf))
      have HQ12 := Lib.hid (HQ11.out.kept hm.2 (fun hf => hf))
      have HK12 := Lib.hid (HK11.out.then hm.2)
      clear hm hy6 HFI1 HFI2 HO11 HB11 HR11 HP11 HQ11 HK11
      go_wp2_with (refine wpList_ld rfl _ (.tmp 14) rfl _ 0 rfl _ HQ12.out.all _ Try.underlying28 rfl (by rw [fcs_len F2six]; exact infF) ?_)
      refine (proto_yes (snF2 T b [o0, o1, o2] r) qt qb qr w12 HFI3.out).mono ?_
      rintro e w13 ⟨v7, rfl, hm⟩
      have hpr : protoM (snF2 T b [o0, o1, o2] r) = if [o0, o1, o2] = z3 then ((T : Int), b, true) else (0, [], false) := by
        unfold protoM
        by_cases hz : [o0, o1, o2] = z3
        · rw [if_pos hz, if_pos (.inr ⟨rfl, hz⟩)]; rfl
        · rw [if_neg hz, if_neg (by rintro (h | ⟨_, h⟩); cases h; exact hz h)]
      rw [hpr] at hm ⊢
      clear hpr
      by_cases hz : [o0, o1, o2] = z3
      · rw [if_pos hz] at hm ⊢
        simp only at hm ⊢
        obtain ⟨A7, c7, rfl⟩ := own_form hm.1
        obtain ⟨A7', c7', e7, hy7, _⟩ := Byt.of_own hm.1
        cases e7
        obtain ⟨Aq, nq, cq, rfl, hqr0⟩ := HFI3.out.r
        have hqr : Byt w12 Aq nq cq r := hqr0
        clear hqr0
        have t1 := (HY6.out.kept hm.2 (fun _ _ hf => hf)).text (P := Try.prog) Try.underlying26 Try.underlying5 Try.underlying9
        have t2 := (HB12.out.kept hm.2 (fun _ _ hf => hf)).text (P := Try.prog) Try.underlying26 Try.underlying5 Try.underlying9
        have t3 := (hqr.kept hm.2 (fun _ _ hf => hf)).text (P := Try.prog) Try.underlying26 Try.underlying5 Try.underlying9
        have t4 := (HR12.out.kept hm.2 (fun _ _ hf => hf)).text (P := Try.prog) Try.underlying26 Try.underlying5 Try.underlying9
        have t5 := hy7.text (P := Try.prog) Try.underlying26 Try.underlying5 Try.underlying9
        have c22 := (HQ12.out.kept hm.2 (fun hf => hf)).cr F2six
        have HRO := Lib.hid (Blo.row [] [.int .u8 (o0.toNat : Int), .int .u8 (o1.toNat : Int), .int .u8 (o2.toNat : Int)] [] (HO12.out.kept hm.2 (fun hf => hf)))
        have he0 := eq_arr3 [o0, o1, o2] z3 rfl rfl
        rw [show ([o0, o1, o2] == z3) = decide ([o0, o1, o2] = z3) by rw [Bool.eq_iff_iff]; simp, decide_eq_true hz] at he0
        have heq : ∀ w, (Op.equalIn 10000 25 (.agg #[.int .u8 (o0.toNat : Int), .int .u8 (o1.toNat : Int), .int .u8 (o2.toNat : Int)]) (.agg #[.int .u8 0, .int .u8 0, .int .u8 0])).run Try.prog w = .ok true w := he0
        have HK13 := Lib.hid (HK12.out.then hm.2)
        have HZZ := Lib.hid hz
        clear hz he0 hm hy7 hqr HY6 HFI3 HO12 HB12 HR12 HQ12 HK12
        go_wp2_with (refine wpList_ld rfl _ (.tmp 7) rfl _ 0 rfl _ HRO.out _ Try.underlying25 rfl inf3 ?_)
        refine (tells_yes _).mono ?_
        rintro e w14 ⟨rfl, hk14⟩
        have HK14 := Lib.hid (HK13.out.then hk14)
        clear hk14 HK13 t1 t2 t3 t4 t5 c22 HRO heq
        go_wp2
        go_ret
        exact ⟨rfl, HK14.out.below (Nat.le_refl _) (fun _ hf => hf.elim)⟩
      · rw [if_neg hz] at hm ⊢
        simp only at hm ⊢
        obtain ⟨A7, c7, rfl⟩ := own_form hm.1
        obtain ⟨A7', c7', e7, hy7, _⟩ := Byt.of_own hm.1
        cases e7
        obtain ⟨Aq, nq, cq, rfl, hqr0⟩ := HFI3.out.r
        have hqr : Byt w12 Aq nq cq r := hqr0
        clear hqr0
        have t1 := (HY6.out.kept hm.2 (fun _ _ hf => hf)).text (P := Try.prog) Try.underlying26 Try.underlying5 Try.underlying9
        have t2 := (HB12.out.kept hm.2 (fun _ _ hf => hf)).text (P := Try.prog) Try.underlying26 Try.underlying5 Try.underlying9
        have t3 := (hqr.kept hm.2 (fun _ _ hf => hf)).text (P := Try.prog) Try.underlying26 Try.underlying5 Try.underlying9
        have t4 := (HR12.out.kept hm.2 (fun _ _ hf => hf)).text (P := Try.prog) Try.underlying26 Try.underlying5 Try.underlying9
        have t5 := hy7.text (P := Try.prog) Try.underlying26 Try.underlying5 Try.underlying9
        have c22 := (HQ12.out.kept hm.2 (fun hf => hf)).cr F2six
        have HRO := Lib.hid (Blo.row [] [.int .u8 (o0.toNat : Int), .int .u8 (o1.toNat : Int), .int .u8 (o2.toNat : Int)] [] (HO12.out.kept hm.2 (fun hf => hf)))
        have he0 := eq_arr3 [o0, o1, o2] z3 rfl rfl
        rw [show ([o0, o1, o2] == z3) = decide ([o0, o1, o2] = z3) by rw [Bool.eq_iff_iff]; simp, decide_eq_false hz] at he0
        have heq : ∀ w, (Op.equalIn 10000 25 (.agg #[.int .u8 (o0.toNat : Int), .int .u8 (o1.toNat : Int), .int .u8 (o2.toNat : Int)]) (.agg #[.int .u8 0, .int .u8 0, .int .u8 0])).run Try.prog w = .ok false w := he0
        have HK13 := Lib.hid (HK12.out.then hm.2)
        have HZZ := Lib.hid hz
        clear hz he0 hm hy7 hqr HY6 HFI3 HO12 HB12 HR12 HQ12 HK12
        go_wp2_with (refine wpList_ld rfl _ (.tmp 7) rfl _ 0 rfl _ HRO.out _ Try.underlying25 rfl inf3 ?_)
        refine (tells_yes _).mono ?_
        rintro e w14 ⟨rfl, hk14⟩
        have HK14 := Lib.hid (HK13.out.then hk14)
        clear hk14 HK13 t1 t2 t3 t4 t5 c22 HRO heq
        go_wp2
        go_ret
        exact ⟨rfl, HK14.out.below (Nat.le_refl _) (fun _ hf => hf.elim)⟩
end Go.Proofs.Ytjdaaelkaeokeaa
