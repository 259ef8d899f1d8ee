/- Texts that belong together, one behind the other: CutB, Num. Conditions: those of each. -/
import Derived.Test.YthjfeanmgaidcaaMg5
import Derived.Test.YthjfeanmgaidcaaMg0
/- Contracts of package cut's cutter, second part: take, Take, Skip, Rest, the numbers, New, and the library's Clone. -/
namespace Go.Proofs.Ythjfeanmgaidcaa
open Go.RowKit
set_option linter.unusedVariables false

theorem take_yes (g : Nat) (A : Option Addr) (n c : Nat) (s : Cst) (x : Int) (w : World) (h : Cutr w g A n c s) (hx : x ≤ 9223372036854775807) :
    Calls Try.prog 80 #[.pointer (some ⟨g, 0, none⟩), .int .i64 x] w fun e w' =>
      ∃ A' m c', e = .returned (.slice A' m c') ∧ Byt w' A' m c' (takeM s x).1 ∧ Cutr w' g A n c (takeM s x).2 ∧ Kept (One g) w w' ∧ ∀ i, Lies A' m i → Lies A n i := by
  have hle := h.le
  have hn : n ≤ 9223372036854775807 := Nat.le_trans h.byt.2.1 h.byt.2.2.1
  have hlen := h.len
  by_cases he : s.er = 0
  · by_cases h1 : x < 0
    · have ht : takeM s x = ([], failM s 1) := by unfold takeM failM; simp [he, h1]
      have hf2 : (failM s 1).er = 1 := by unfold failM; simp [he]
      rw [ht]
      have Hf2 := Lib.hid hf2
      clear hf2 ht hlen he
      go_enter Try.func80, Try.ntmps80
      go_wp2_with fail
      refine (fail_yes g A n c s 1 _ h).mono ?_
      rintro e w1 ⟨rfl, h', k1⟩
      have h0 := h'.c0
      have h3 := h'.c3
      rw [Hf2.out] at h3
      clear h
      go_wp2_with (go_at_call 33; refine (err_yes g _ _ h0 h3).mono ?_; rintro e w' ⟨rfl, rfl⟩)
      go_ret
      exact ⟨_, _, _, rfl, Byt.none _, h', k1, fun i hi => absurd hi.1 (by omega)⟩
    · by_cases h2 : (n : Int) - s.k < x
      · have ht : takeM s x = ([], failM s 4) := by unfold takeM failM; simp [he, h1, hlen]; omega
        have hl : leftM s = (n : Int) - s.k := by unfold leftM; simp [he, hlen]
        have hf2 : (failM s 4).er = 4 := by unfold failM; simp [he]
        rw [ht]
        have Hf2 := Lib.hid hf2
        have Hl := Lib.hid hl
        clear hf2 ht hlen he hl
        go_enter Try.func80, Try.ntmps80
        go_wp2_with fail
        refine (left_yes g A n c s _ h).mono ?_
        rintro e w1 ⟨rfl, q, rfl⟩
        rw [Hl.out]
        go_wp2_with fail
        refine (fail_yes g A n c s 4 _ (h.drewN q)).mono ?_
        rintro e w2 ⟨rfl, h', k1⟩
        have h0 := h'.c0
        have h3 := h'.c3
        rw [Hf2.out] at h3
        have K1 := Lib.hid ((Kept.refl (One g) w).drewN q |>.same k1)
        clear h k1
        go_wp2_with (go_at_call 33; refine (err_yes g _ _ h0 h3).mono ?_; rintro e w' ⟨rfl, rfl⟩)
        go_ret
        exact ⟨_, _, _, rfl, Byt.none _, h', K1.out, fun i hi => absurd hi.1 (by omega)⟩
      · obtain ⟨m, rfl⟩ := Int.eq_ofNat_of_zero_le (show 0 ≤ x by omega)
        have ht : takeM s m = ((s.l.take (s.k + m)).drop s.k, { s with k := s.k + m }) := by
          unfold takeM
          rw [if_neg (by simp [he]), if_neg (by omega), if_neg (by rw [hlen]; omega)]
          simp
        have hl : leftM s = (n : Int) - s.k := by unfold leftM; simp [he, hlen]
        rw [ht]
        have hb := h.byt.cut (lo := s.k) (hi := s.k + m) (by omega) (by omega)
        have Hl := Lib.hid hl
        have h0 := h.c0
        have h1 := h.c1
        have h2' := h.c2
        have h3 := h.c3
        have hfz := h.blo.frozen 2
        rw [he] at h3
        have hcc : n ≤ c := h.byt.2.1
        have hset := h.setAt (s.k + m) (by omega) ((s.k : Int) + m) (by omega)
        have hb2 := hb.kept (Kept.one w g 2 none (.int .i64 ((s.k : Int) + m))) (fun i hi hi' => h.apart i ⟨by have := hi.1; omega, (Lies.cut i hi).2⟩ hi')
        have hli : ∀ i, Lies (cutA A c s.k) (s.k + m - s.k) i → Lies A n i := fun i hi => ⟨by have := hi.1; omega, (Lies.cut i hi).2⟩
        rw [show s.k + m - s.k = m from by omega] at hb2 hli
        have Hset := Lib.hid hset
        have Hb2 := Lib.hid hb2
        have Hli := Lib.hid hli
        clear hset hb2 hb hli ht hlen he hl
        go_enter Try.func80, Try.ntmps80
        go_wp2_with fail
        refine (left_yes g A n c s _ h).mono ?_
        rintro e w1 ⟨rfl, q, rfl⟩
        rw [Hl.out]
        clear h
        go_wp2_with (go_at_call 33; refine (err_yes g _ _ (by exact h0) (by exact h3)).mono ?_; rintro e w' ⟨rfl, rfl⟩)
        have hsl := run_cut (P := Try.prog) Try.underlying31 inf5.1 inf5.2 A n c s.k (s.k + m) (s.k : Int) ((s.k : Int) + m) rfl (by omega) (by omega) (by omega)
        go_quiet (fail)
        go_wp2
        go_ret
        exact ⟨_, _, _, rfl, Hb2.out.heap rfl, Hset.out.heap rfl, (((Kept.refl (One g) w).drewN q).put rfl _).drewN nq, Hli.out⟩
  · have ht : takeM s x = ([], s) := by unfold takeM; simp [he]
    have hf1 : failM s 1 = s := by unfold failM; simp [he]
    have hf4 : failM s 4 = s := by unfold failM; simp [he]
    have hl : leftM s = 0 := by unfold leftM; simp [he]
    have hb : (s.er != 0) = true := by simp [he]
    rw [ht]
    have H1 := Lib.hid hf1
    have H4 := Lib.hid hf4
    have Hl := Lib.hid hl
    have He := Lib.hid he
    clear ht hf1 hf4 hl hlen he
    by_cases h1 : x < 0
    · go_enter Try.func80, Try.ntmps80
      go_wp2_with fail
      refine (fail_yes g A n c s 1 _ h).mono ?_
      rintro e w1 ⟨rfl, h', k1⟩
      rw [H1.out] at h'
      have h0 := h'.c0
      have h3 := h'.c3
      clear h
      go_wp2_with (go_at_call 33; refine (err_yes g _ _ h0 h3).mono ?_; rintro e w' ⟨rfl, rfl⟩)
      go_ret
      exact ⟨_, _, _, rfl, Byt.none _, h', k1, fun i hi => absurd hi.1 (by omega)⟩
    · by_cases h2 : (0 : Int) < x
      · go_enter Try.func80, Try.ntmps80
        go_wp2_with fail
        refine (left_yes g A n c s _ h).mono ?_
        rintro e w1 ⟨rfl, q, rfl⟩
        rw [Hl.out]
        go_wp2_with fail
        refine (fail_yes g A n c s 4 _ (h.drewN q)).mono ?_
        rintro e w2 ⟨rfl, h', k1⟩
        rw [H4.out] at h'
        have h0 := h'.c0
        have h3 := h'.c3
        have K1 := Lib.hid ((Kept.refl (One g) w).drewN q |>.same k1)
        clear h k1
        go_wp2_with (go_at_call 33; refine (err_yes g _ _ h0 h3).mono ?_; rintro e w' ⟨rfl, rfl⟩)
        go_ret
        exact ⟨_, _, _, rfl, Byt.none _, h', K1.out, fun i hi => absurd hi.1 (by omega)⟩
      · have h0 := h.c0
        have h3 := h.c3
        go_enter Try.func80, Try.ntmps80
        go_wp2_with fail
        refine (left_yes g A n c s _ h).mono ?_
        rintro e w1 ⟨rfl, q, rfl⟩
        rw [Hl.out]
        go_wp2_with (go_at_call 33; refine (err_yes g _ _ (by exact h0) (by exact h3)).mono ?_; rintro e w' ⟨rfl, rfl⟩)
        go_ret
        exact ⟨_, _, _, rfl, Byt.none _, h.drewN q, (Kept.refl (One g) w).drewN q, fun i hi => absurd hi.1 (by omega)⟩

theorem new_yes (A : Option Addr) (n c : Nat) (l : List UInt8) (w : World) (h : Byt w A n c l) (hn : n ≤ 140737488355328) :
    Calls Try.prog 29 #[.slice A n c] w fun e w' =>
      ∃ g A' c', e = .returned (.pointer (some ⟨g, 0, none⟩)) ∧ Cutr w' g A' n c' ⟨l, 0, 0⟩ ∧ Kept Nil w w' ∧ w.heap.size ≤ g ∧ ∀ i, Lies A' n i → w.heap.size ≤ i := by
  have Hl := Lib.hid h.1
  go_enter Try.func29, Try.ntmps29
  go_wp2_with fail
  refine (sclone A n c l _ h hn).mono ?_
  rintro e w1 ⟨v, rfl, hm⟩
  obtain ⟨A', c', hv, hb, hi⟩ := Byt.of_own hm.1
  subst hv
  have Hm := Lib.hid hm.2
  have Hb := Lib.hid hb
  have Hi := Lib.hid hi
  clear h hm hb hi
  go_wp2
  go_ret
  rw [Hl.out] at Hb Hi ⊢
  have hB := Blo.new w1 112 #[.bool true, .slice A' n c', .int .i64 0, .int .i64 0]
  refine ⟨_, A', c', rfl, ⟨hB, Hb.out.kept ((Kept.refl Nil w1).alloc _) (fun _ _ hf => hf), Nat.zero_le _, fun i hi => ?_⟩, Hm.out.alloc _, Hm.out.size, Hi.out⟩
  exact Nat.ne_of_lt (Hb.out.lt i hi)

/-- What is taken is no longer than what there is. -/
theorem takeM_len (s : Cst) (x : Int) : (takeM s x).1.length ≤ s.l.length := by
  unfold takeM
  split <;> try simp
  split <;> try simp
  split <;> try simp
  omega

theorem Take_yes (g : Nat) (A : Option Addr) (n c : Nat) (s : Cst) (x : Int) (w : World) (h : Cutr w g A n c s) (hx : x ≤ 9223372036854775807) (hn : n ≤ 140737488355328) :
    Calls Try.prog 62 #[.pointer (some ⟨g, 0, none⟩), .int .i64 x] w fun e w' =>
      ∃ v, e = .returned v ∧ w'.ownsRow w.heap.size 5 1 v (takeM s x).1.length (bys (takeM s x).1) ∧ Cutr w' g A n c (takeM s x).2 ∧ Kept (One g) w w' := by
  have hlen := h.len
  have htl := takeM_len s x
  have HT := Lib.hid htl
  have HL := Lib.hid hlen
  clear hlen htl
  go_enter Try.func62, Try.ntmps62
  go_wp2_with fail
  refine (take_yes g A n c s x _ h hx).mono ?_
  rintro e w1 ⟨A', m, c', rfl, hb, hc, hk, hl⟩
  have Hc := Lib.hid hc
  have Hk := Lib.hid hk
  have Hl := Lib.hid hl
  clear hc hk hl h
  go_wp2_with fail
  refine (sclone A' m c' _ _ hb (by have := HT.out; have := HL.out; have := hb.1; omega)).mono ?_
  rintro e w2 ⟨v, rfl, hm⟩
  have Hm := Lib.hid hm
  clear hm hb
  go_wp2
  go_ret
  exact ⟨v, rfl, own_mono Hm.out.1 Hk.out.size, Hc.out.kept Hm.out.2 (fun hf => hf) (fun _ _ hf => hf), Hk.out.then Hm.out.2⟩

theorem Rest_yes (g : Nat) (A : Option Addr) (n c : Nat) (s : Cst) (w : World) (h : Cutr w g A n c s) (hn : n ≤ 140737488355328) :
    Calls Try.prog 32 #[.pointer (some ⟨g, 0, none⟩)] w fun e w' =>
      ∃ v, e = .returned v ∧ w'.ownsRow w.heap.size 5 1 v (takeM s (leftM s)).1.length (bys (takeM s (leftM s)).1) ∧ Cutr w' g A n c (takeM s (leftM s)).2 ∧ Kept (One g) w w' := by
  have hx : leftM s ≤ 9223372036854775807 := by
    have := h.len
    unfold leftM
    split <;> omega
  go_enter Try.func32, Try.ntmps32
  go_wp2_with fail
  refine (left_yes g A n c s _ h).mono ?_
  rintro e w1 ⟨rfl, q, rfl⟩
  go_wp2_with fail
  refine (Take_yes g A n c s (leftM s) _ (h.drewN q) hx hn).mono ?_
  rintro e w2 ⟨v, rfl, ho, hc, hk⟩
  have Ho := Lib.hid ho
  have Hc := Lib.hid hc
  have Hk := Lib.hid hk
  clear ho hc hk h
  go_wp2
  go_ret
  exact ⟨v, rfl, Ho.out, Hc.out, ((Kept.refl (One g) w).drewN q).same Hk.out⟩
end Go.Proofs.Ythjfeanmgaidcaa
/- Numbers and their bytes, in plain words. Nothing of the program is named here. -/
namespace Go.Proofs.Ythjfeanmgaidcaa
set_option linter.unusedVariables false

/-- A number out of bytes, the highest first. -/
def numM (l : List UInt8) : Nat := l.foldl (fun a b => a * 256 + b.toNat) 0
theorem numM_snoc (l : List UInt8) (b : UInt8) : numM (l ++ [b]) = numM l * 256 + b.toNat := by simp [numM]
theorem foldn_lt (l : List UInt8) (a : Nat) : l.foldl (fun a b => a * 256 + b.toNat) a < (a + 1) * 256 ^ l.length := by
  induction l generalizing a with
  | nil => simp
  | cons b l ih =>
    have h1 := ih (a * 256 + b.toNat)
    have h2 := b.toNat_lt
    have h3 : (a * 256 + b.toNat + 1) * 256 ^ l.length ≤ (a + 1) * 256 * 256 ^ l.length := Nat.mul_le_mul_right _ (by omega)
    simp only [List.foldl_cons, List.length_cons, Nat.pow_succ]
    rw [Nat.mul_comm (256 ^ l.length) 256, ← Nat.mul_assoc]
    omega
theorem numM_lt (l : List UInt8) : numM l < 256 ^ l.length := by have := foldn_lt l 0; simpa [numM] using this
theorem six_of (l : List UInt8) (h : l.length = 6) : ∃ a b c d e f, l = [a, b, c, d, e, f] := by
  match l, h with
  | [a, b, c, d, e, f], _ => exact ⟨a, b, c, d, e, f, rfl⟩
/-- A number's bytes, W of them, the highest first. -/
def beM (W x : Nat) : List UInt8 := (List.range W).map fun j => UInt8.ofNat (x / 2 ^ (8 * (W - 1 - j)))
theorem beM_len (W x : Nat) : (beM W x).length = W := by simp [beM]
def beAll (W : Nat) (xs : List Nat) : List UInt8 := (xs.map (beM W)).flatten
theorem beAll_snoc (W : Nat) (xs : List Nat) (k : Nat) (h : k < xs.length) : beAll W (xs.take (k + 1)) = beAll W (xs.take k) ++ beM W xs[k] := by
  rw [List.take_succ_eq_append_getElem h]
  simp only [beAll, List.map_append, List.flatten_append, List.map_cons, List.map_nil, List.flatten_cons, List.flatten_nil, List.append_nil]
theorem beAll_len (W : Nat) (xs : List Nat) : (beAll W xs).length = xs.length * W := by
  induction xs with
  | nil => simp [beAll]
  | cons x xs ih => simp only [beAll, List.map_cons, List.flatten_cons, List.length_append, beM_len, List.length_cons] at ih ⊢; rw [ih, Nat.add_mul]; omega
theorem bys_set (l : List UInt8) (i : Nat) (b : UInt8) : (bys l).set i (.int .u8 (b.toNat : Int)) = bys (l.set i b) := by simp [bys, List.map_set]
end Go.Proofs.Ythjfeanmgaidcaa
