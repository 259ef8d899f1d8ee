/- tolllaw03: of; the reference's Read. -/
import Derived.Test.YtjdaaelkaeokeaaTagE
namespace Go.Proofs.Ytjdaaelkaeokeaa
open Go.RowKit Go.Sort
set_option linter.unusedVariables false

theorem Try.infr : (Try.prog.info? 61).map (fun i => (i.zero, i.size, i.bytes)) = some (some (tgv ⟨0, 0, false, 0⟩), 4, 6) := by kernel_rfl
/-- The document's tags in new memory. -/
def MadeQ (w w' : World) (v : Value) (l : List Tg) : Prop := w'.ownsRow w.heap.size 61 4 v l.length (l.map tgc).flatten ∧ Kept Nil w w'

theorem own_block_ge {w : World} {B e size n : Nat} {v : Value} {xs : List Value} (h : w.ownsRow B e size v n xs) : ∀ i, v.ownBlock = some i → B ≤ i := fun i hi => (h.lt i hi).1
theorem numM_two (a b : UInt8) : (numM [a, b] : Int) = 256 * (a.toNat : Int) + b.toNat := by simp [numM]; omega
theorem two_of (l : List UInt8) (h : 2 ≤ l.length) : ∃ a b r, l = a :: b :: r := by
  match l, h with
  | a :: b :: r, _ => exact ⟨a, b, r, rfl⟩
theorem four_of (l : List UInt8) (h : 4 ≤ l.length) : ∃ a b c d r, l = a :: b :: c :: d :: r := by
  match l, h with
  | a :: b :: c :: d :: r, _ => exact ⟨a, b, c, d, r, rfl⟩
/-- Documents' tags and bytes, in new memory and in old. -/
structure MadeS (w w' : World) (v1 v2 : Value) (ts : List Tg) (r : List UInt8) (F : Nat → Prop) : Prop where
  tags : w'.ownsRow w.heap.size 61 4 v1 ts.length (ts.map tgc).flatten
  rest : ∃ A m c, v2 = .slice A m c ∧ Byt w' A m c r
  ok : ∀ t ∈ ts, t.ok
  kept : Kept Nil w w'
  far : ∀ A m c, v2 = .slice A m c → ∀ i, Lies A m i → F i
theorem readGo_ok (f : Nat) : ∀ (ts : List Tg) (b : List UInt8), (∀ t ∈ ts, t.ok) → ∀ t ∈ (readGo f ts b).1, t.ok := by
  induction f with
  | zero => intro ts b h; exact h
  | succ f ih =>
    intro ts b h
    unfold readGo
    split
    · split
      · intro t ht; simp at ht
      · refine ih _ _ fun t ht => ?_
        rcases List.mem_append.1 ht with ht | ht
        · exact h t ht
        · simp at ht
          subst ht
          exact tagOfM_ok _ _ (numM_take2 _) (numM_take2 _)
    · exact h

set_option maxHeartbeats 2000000 in
theorem rread_yes (A : Option Addr) (n c : Nat) (l : List UInt8) (w : World) (h : Byt w A n c l) :
    Calls Try.prog 32 #[.slice A n c] w fun e w' => ∃ v1 v2, e = .returned (.tuple #[v1, v2, .int .i64 (readM l).2.2]) ∧ MadeS w w' v1 v2 (readM l).1 (readM l).2.1 (Lies A n) := by
  have hnc := h.2.1
  have hcc := h.2.2.1
  obtain ⟨i0, hi, hz0, hz1, hz2⟩ := info_parts Try.infr
  have HB := Lib.hid h
  clear h
  go_enter Try.func32, Try.ntmps32
  go_wp2
  go_loopw [0, 5] (fun x v wr => ∃ (ts : List Tg) (k : Nat) (A' : Option Addr) (m c' : Nat) (r : List UInt8), x = .slice A' m c' ∧ Byt wr A' m c' r ∧ wr.ownsRow w.heap.size 61 4 v k (ts.map tgc).flatten ∧ ts.length = k ∧ k ≤ 2 ∧ (∀ t ∈ ts, t.ok) ∧ readM l = readGo (2 - k) ts r ∧ Kept Nil w wr ∧ (∀ i, Lies A' m i → Lies A n i)) (fun _ v _ => 3 - slen v)
  case atStart => exact ⟨[], 0, A, n, c, l, rfl, HB.out, World.ownsRow_nil _ _ _ _, rfl, by simp, by simp, rfl, Kept.refl _ _, fun _ h => h⟩
  case round =>
    obtain ⟨ts, k, A', m, c', r, rfl, hb, ho, hts, hk2, hok, hr, hk, hli⟩ := hrel
    obtain ⟨At, ct, rfl⟩ := own_form ho
    have hmc := hb.2.1
    have hcc' := hb.2.2.1
    have HO := Lib.hid ho
    have HBy := Lib.hid hb
    have HK := Lib.hid hk
    have HOK := Lib.hid hok
    have HLI := Lib.hid hli
    have HTS := Lib.hid hts
    clear ho hk hok hli hts hnc hcc
    by_cases h2 : k = 2
    · subst h2
      have hr2 : readM l = (ts, r, 0) := by rw [hr]; rfl
      have HR := Lib.hid hr2
      clear hr2 hr hb
      go_wp2
      refine bodyPost_ret (v := .tuple #[.slice At 2 ct, .slice A' m c', .int .i64 0]) (by simp [results, Try.results32, go_sem]) rfl ⟨_, _, by rw [HR.out], ⟨by rw [HR.out, HTS.out]; exact HO.out, ⟨_, _, _, rfl, by rw [HR.out]; exact HBy.out⟩, by rw [HR.out]; exact HOK.out, HK.out, fun _ _ _ e => by cases e; exact HLI.out⟩⟩
    · by_cases hm2 : m < 2
      · have hst : standM (nextM r) (k : Int) = false := by rw [next_short _ (by rw [HBy.out.1]; exact hm2), stand_zero]
        have hr2 : readM l = (ts, r, 0) := by
          obtain ⟨f, hf⟩ : ∃ f, 2 - k = f + 1 := ⟨1 - k, by omega⟩
          rw [hr, hf, readGo, HTS.out, hst]
          rfl
        have HR := Lib.hid hr2
        have hlt : (k : Int) < 2 := by omega
        have hm2' : ¬ ((2 : Int) ≤ (m : Int)) := by omega
        clear hr2 hr hb hst h2 hk2
        go_wp2
        refine bodyPost_ret (v := .tuple #[.slice At k ct, .slice A' m c', .int .i64 0]) (by simp [results, Try.results32, go_sem]) rfl ⟨_, _, by rw [HR.out], ⟨by rw [HR.out, HTS.out]; exact HO.out, ⟨_, _, _, rfl, by rw [HR.out]; exact HBy.out⟩, by rw [HR.out]; exact HOK.out, HK.out, fun _ _ _ e => by cases e; exact HLI.out⟩⟩
      · obtain ⟨b0, b1, r', rfl⟩ := two_of r (by rw [HBy.out.1]; omega)
        obtain ⟨B, o, rfl, q0⟩ := hb.at (i := 0) (by simp)
        obtain ⟨B', o', e', q1⟩ := hb.at (i := 1) (by simp)
        cases e'
        simp at q0 q1
        have hlt : (k : Int) < 2 := by omega
        have hm2' : (2 : Int) ≤ (m : Int) := by omega
        have hb0 := b0.toNat_lt
        have hb1 := b1.toNat_lt
        have hK : (numM [b0, b1] : Int) = 256 * (b0.toNat : Int) + b1.toNat := numM_two b0 b1
        have hn2 : nextM (b0 :: b1 :: r') = numM [b0, b1] := by unfold nextM; rw [if_pos (by simp)]; rfl
        generalize hKK : numM [b0, b1] = K at *
        have HKK := Lib.hid hKK
        have HNX := Lib.hid hn2
        have HR := Lib.hid hr
        clear hKK hn2 hr hb
        go_wp2
        go_quiet (fail)
        rw [← hK]
        have HK3 := Lib.hid hK
        clear hK q0 q1 hb0 hb1
        have hKl : (K : Int) < 65536 := by have := numM_take2 (b0 :: b1 :: r'); simp at this; rw [HKK.out] at this; omega
        cases hst : standM K (k : Int)
        · have hr2 : readM l = (ts, b0 :: b1 :: r', 0) := by
            obtain ⟨f, hf⟩ : ∃ f, 2 - k = f + 1 := ⟨1 - k, by omega⟩
            rw [HR.out, hf, readGo, HTS.out, HNX.out, hst]
            rfl
          have HR2 := Lib.hid hr2
          have hor : (((K : Int) != 33024) = true ∧ ((K : Int) != 34984) = true) ∨ (((K : Int) != 33024) = true ∧ ((K : Int) != 34984) = false ∧ k = 1) := by
            unfold standM at hst
            rcases (show k = 0 ∨ k = 1 by omega) with rfl | rfl
            · simp at hst ⊢; omega
            · simp at hst ⊢; omega
          clear hr2 hst h2 hk2
          rcases hor with ⟨f1, f2⟩ | ⟨f1, f2, rfl⟩
          · go_wp2
            refine bodyPost_ret (v := .tuple #[.slice At k ct, .slice (some ⟨B, o, none⟩) m c', .int .i64 0]) (by simp [results, Try.results32, go_sem]) rfl ⟨_, _, by rw [HR2.out], ⟨by rw [HR2.out, HTS.out]; exact HO.out, ⟨_, _, _, rfl, by rw [HR2.out]; exact HBy.out.heap rfl⟩, by rw [HR2.out]; exact HOK.out, HK.out.drewN _, fun _ _ _ e => by cases e; exact HLI.out⟩⟩
          · go_wp2
            refine bodyPost_ret (v := .tuple #[.slice At 1 ct, .slice (some ⟨B, o, none⟩) m c', .int .i64 0]) (by simp [results, Try.results32, go_sem]) rfl ⟨_, _, by rw [HR2.out], ⟨by rw [HR2.out, HTS.out]; exact HO.out, ⟨_, _, _, rfl, by rw [HR2.out]; exact HBy.out.heap rfl⟩, by rw [HR2.out]; exact HOK.out, HK.out.drewN _, fun _ _ _ e => by cases e; exact HLI.out⟩⟩
        · have hor : ((K : Int) != 33024) = false ∨ (((K : Int) != 33024) = true ∧ ((K : Int) != 34984) = false ∧ ((k : Int) == 1) = false) := by
            unfold standM at hst
            rcases (show k = 0 ∨ k = 1 by omega) with rfl | rfl
            · simp at hst ⊢; omega
            · simp at hst ⊢; omega
          by_cases hm4 : m < 4
          · have hr2 : readM l = ([], [], 4) := by
              obtain ⟨f, hf⟩ : ∃ f, 2 - k = f + 1 := ⟨1 - k, by omega⟩
              rw [HR.out, hf, readGo, HTS.out, HNX.out, hst, if_pos rfl, if_pos (by rw [HBy.out.1]; exact hm4)]
            have HR2 := Lib.hid hr2
            have hm4' : (m : Int) < 4 := by omega
            clear hr2 hst h2 hk2 hm4
            rcases hor with f1 | ⟨f1, f2, f3⟩ <;>
            · go_wp2
              refine bodyPost_ret (v := .tuple #[.slice none 0 0, .slice none 0 0, .int .i64 4]) (by simp [results, Try.results32, go_sem]) rfl ⟨_, _, by rw [HR2.out], ⟨by rw [HR2.out]; exact World.ownsRow_nil _ _ _ _, ⟨_, _, _, rfl, by rw [HR2.out]; exact Byt.none _⟩, by rw [HR2.out]; simp, HK.out.drewN _, fun _ _ _ e i hi => by cases e; exact absurd hi.1 (by omega)⟩⟩
          · obtain ⟨b2, b3, r2, rfl⟩ := two_of r' (by have := HBy.out.1; simp at this; omega)
            obtain ⟨B', o', e', p0⟩ := HBy.out.at (i := 2) (by simp)
            cases e'
            obtain ⟨B', o', e', p1⟩ := HBy.out.at (i := 3) (by simp)
            cases e'
            simp at p0 p1
            have hm4' : ¬ ((m : Int) < 4) := by omega
            have h2m : (2 : Int) < (m : Int) := by omega
            have h3m : (3 : Int) < (m : Int) := by omega
            have hb2 := b2.toNat_lt
            have hb3 := b3.toNat_lt
            have hX : (numM [b2, b3] : Int) = 256 * (b2.toNat : Int) + b3.toNat := numM_two b2 b3
            have hn4 : readGo (2 - k) ts (b0 :: b1 :: b2 :: b3 :: r2) = readGo (2 - (k + 1)) (ts ++ [tagOfM K (numM [b2, b3])]) r2 := by
              obtain ⟨f, hf⟩ : ∃ f, 2 - k = f + 1 := ⟨1 - k, by omega⟩
              rw [hf, readGo, HTS.out, HNX.out, hst, if_pos rfl, if_neg (by simp), show 2 - (k + 1) = f by omega]
              simp [HKK.out]
            have hXl : (numM [b2, b3] : Int) < 65536 := by have := numM_take2 (b2 :: b3 :: r2); simp at this; omega
            generalize hXX : numM [b2, b3] = X at *
            have htc : tgc (tagOfM K X) = [.int .u16 (K : Int), .int .u8 ((X : Int) / 8192), .bool ((X : Int) / 4096 % 2 == 1), .int .u16 ((X : Int) % 4096)] := by
              have e1 : ((X : Int) / 4096 % 2 == 1) = (X / 4096 % 2 == 1) := by rw [Bool.eq_iff_iff]; simp; omega
              unfold tgc tagOfM
              simp only [and_4096, and_4095, e1]
              simp
            have htok := tagOfM_ok K X (by omega) (by omega)
            generalize htg : tagOfM K X = tg at *
            have hcat : (ts.map tgc).flatten ++ ([tg].map tgc).flatten = ((ts ++ [tg]).map tgc).flatten := by simp
            have HTC := Lib.hid htc
            have HN4 := Lib.hid (HR.out.trans hn4)
            have HCAT := Lib.hid hcat
            have HTOK := Lib.hid htok
            have HW := Lib.hid HK.out.size
            have HST := Lib.hid hst
            clear hXX htg hn4 htc hst hm4 hcat htok
            have hown : ∀ q, ((wr.drewN q).alloc (.cells #[.int .u16 (K : Int), .int .u8 ((X : Int) / 8192), .bool ((X : Int) / 4096 % 2 == 1), .int .u16 ((X : Int) % 4096)] 61)).ownsRow w.heap.size 61 4 (.slice At k ct) k (ts.map tgc).flatten := fun q => own_kept HO.out (((Kept.refl Nil wr).drewN q).alloc _) (fun _ _ hf => hf)
            have hsrc : ∀ q, Rws 4 ((wr.drewN q).alloc (.cells #[.int .u16 (K : Int), .int .u8 ((X : Int) / 8192), .bool ((X : Int) / 4096 % 2 == 1), .int .u16 ((X : Int) % 4096)] 61)) (some ⟨wr.heap.size, 0, none⟩) 1 1 ([tg].map tgc) := fun q => Rws.lit (s := 4) (wr.drewN q) ([tg].map tgc) 61 (tgc_len [tg]) (by simp) _ (by simp [HTC.out]) 1 rfl wr.heap.size rfl
            have HOW := Lib.hid hown
            have HSR := Lib.hid hsrc
            have hsl := run_cut_lo (P := Try.prog) Try.underlying26 inf5.1 inf5.2 (some ⟨B, o, none⟩) m c' 4 4 rfl (by omega)
            clear hown hsrc
            rcases hor with f1 | ⟨f1, f2, f3⟩ <;>
            · go_wp2
              go_quiet (fail)
              rw [← hX]
              have HX := Lib.hid hX
              clear hX p0 p1 hb2 hb3
              go_wp2_with (at_builtin; refine wpList_appR rfl _ _ 30 rfl 4 w.heap.size 61 6 i0 (tgv ⟨0, 0, false, 0⟩) Try.underlying30 hi hz0 hz1 hz2 rfl (by decide) _ _ _ rfl (HOW.out _) _ 1 1 ([tg].map tgc) rfl (HSR.out _) (tgc_one [tg]) (by unfold maxLen; omega) (by omega) (by have := HW.out; simp; omega) ?_; intro v' w1 hown' hgrow _)
              have hk1 : Kept (fun i => (Value.slice At k ct).ownBlock = some i) wr w1 := (((Kept.refl _ wr).drewN _).alloc _).grown hgrow (fun j hj hj' => hj)
              rw [HCAT.out] at hown'
              obtain ⟨A7, c7, rfl⟩ := own_form hown'
              have HO7 := Lib.hid hown'
              have HK1 := Lib.hid hk1
              clear hown' hgrow hk1
              go_wp2
              go_roundw
              case rel =>
                refine ⟨ts ++ [tg], k + 1, _, m - 4, c' - 4, r2, rfl, ?_, HO7.out, by rw [List.length_append, HTS.out]; rfl, by omega, ?_, HN4.out, HK.out.fresh HK1.out (own_block_ge HO.out), ?_⟩
                · have := (HBy.out.kept HK1.out (fun i hi' hf => absurd (HB.out.lt i (HLI.out i hi')) (Nat.not_lt.2 (own_block_ge HO.out i hf)))).cut (lo := 4) (hi := m) (by omega) (Nat.le_refl _)
                  rw [List.take_of_length_le (by rw [HBy.out.1]; exact Nat.le_refl _)] at this
                  exact this
                · intro t ht
                  rcases List.mem_append.1 ht with ht | ht
                  · exact HOK.out t ht
                  · simp at ht; subst ht; exact HTOK.out
                · intro i hi'
                  exact HLI.out i ⟨by omega, (Lies.cut i hi').2⟩
              case measure => simp [slen]; omega
end Go.Proofs.Ytjdaaelkaeokeaa
