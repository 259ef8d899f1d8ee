/- Contracts of package mac: addresses as arrays of six bytes: Number, Of, IsGroup, Bits, Masked, Kind. -/
import Derived.Test.YtifoepglhlpoiaaDoorProg
import Derived.Test.YtifoepglhlpoiaaDoorMem
import Derived.WalkSpells
import Derived.WalkLawsBesides
import Derived.Deep.QuietTactic
import Derived.BigQuiet
import Derived.BigRegion
import Derived.Lib.Hide
import Derived.Outline
import Derived.Handy
import Derived.Stop.BytesEq
namespace Go.Proofs.YtifoepglhlpoiaaDoor
open Go.RowKit
set_option linter.unusedVariables false

theorem msiz5 (w : World) : (sizeOf 5).run Tryd.prog w = .ok 1 w := by kernel_rfl
/-- Addresses are compared byte by byte. -/
theorem meq (l m : List UInt8) (hl : l.length = 6) (hm : m.length = 6) (w : World) : (Op.equalIn 10000 24 (.agg (bys l).toArray) (.agg (bys m).toArray)).run Tryd.prog w = .ok (l == m) w :=
  run_equalIn_bytes w 9998 24 5 6 Tryd.underlying24 Tryd.underlying5 msiz5 l m hl hm

/-- An address as a value. -/
def mv (l : List UInt8) : Value := .agg (bys l).toArray
theorem mv6 (a b c d e f : UInt8) : mv [a, b, c, d, e, f] = .agg #[.int .u8 (a.toNat : Int), .int .u8 (b.toNat : Int), .int .u8 (c.toNat : Int), .int .u8 (d.toNat : Int), .int .u8 (e.toNat : Int), .int .u8 (f.toNat : Int)] := rfl
theorem six (l : List UInt8) (h : l.length = 6) : ∃ a b c d e f, l = [a, b, c, d, e, f] := by
  match l, h with
  | [a, b, c, d, e, f], _ => exact ⟨a, b, c, d, e, f, rfl⟩
/-- The number of bytes, the highest first. -/
def numL (l : List UInt8) : Nat := l.foldl (fun a b => a * 256 + b.toNat) 0
/-- The address of a number's lowest 48 bits. -/
def ofL (n : Nat) : List UInt8 := [UInt8.ofNat (n / 2 ^ 40), UInt8.ofNat (n / 2 ^ 32), UInt8.ofNat (n / 2 ^ 24), UInt8.ofNat (n / 2 ^ 16), UInt8.ofNat (n / 2 ^ 8), UInt8.ofNat n]
def andL (l m : List UInt8) : List UInt8 := List.zipWith (· &&& ·) l m

theorem join64 (a : Nat) (b : UInt8) (ha : a < 281474976710656) : bits .or .u64 (IntKind.u64.wrap ((a : Int) * 256)) (IntKind.u64.wrap (b.toNat : Int)) = ((a * 256 + b.toNat : Nat) : Int) := by
  have hb := b.toNat_lt
  rw [IntWalk.u64_in _ (by omega), IntWalk.u64_in (b.toNat : Int) (by omega)]
  have e : ((a : Int) * 256) = ((a * 256 : Nat) : Int) := by omega
  rw [e, u64_or_nat _ _ (by omega) (by omega), nat_join 8 _ _ (by omega) (by omega)]
theorem numL_snoc (l : List UInt8) (b : UInt8) : numL (l ++ [b]) = numL l * 256 + b.toNat := by simp [numL]
theorem numL_lt (l : List UInt8) : numL l < 256 ^ l.length := by
  suffices ∀ (l : List UInt8) (a : Nat), l.foldl (fun a b => a * 256 + b.toNat) a < (a + 1) * 256 ^ l.length by
    have := this l 0; simpa [numL] using this
  intro l
  induction l with
  | nil => intro a; simp
  | cons b l ih =>
    intro a
    have h := ih (a * 256 + b.toNat)
    have hb := b.toNat_lt
    simp only [List.foldl_cons, List.length_cons, Nat.pow_succ]
    refine Nat.lt_of_lt_of_le h ?_
    rw [Nat.mul_comm (256 ^ l.length) 256, ← Nat.mul_assoc]
    exact Nat.mul_le_mul_right _ (by omega)

/-- What an index into an address reads. -/
theorem ix0 (a b c d e f : UInt8) (w : World) : (Instr.index 24 (.agg #[.int .u8 (a.toNat : Int), .int .u8 (b.toNat : Int), .int .u8 (c.toNat : Int), .int .u8 (d.toNat : Int), .int .u8 (e.toNat : Int), .int .u8 (f.toNat : Int)]) (.int .i64 0)).run Tryd.prog w = .ok (.int .u8 (a.toNat : Int)) w := by kernel_rfl
theorem ix1 (a b c d e f : UInt8) (w : World) : (Instr.index 24 (.agg #[.int .u8 (a.toNat : Int), .int .u8 (b.toNat : Int), .int .u8 (c.toNat : Int), .int .u8 (d.toNat : Int), .int .u8 (e.toNat : Int), .int .u8 (f.toNat : Int)]) (.int .i64 1)).run Tryd.prog w = .ok (.int .u8 (b.toNat : Int)) w := by kernel_rfl
theorem ix2 (a b c d e f : UInt8) (w : World) : (Instr.index 24 (.agg #[.int .u8 (a.toNat : Int), .int .u8 (b.toNat : Int), .int .u8 (c.toNat : Int), .int .u8 (d.toNat : Int), .int .u8 (e.toNat : Int), .int .u8 (f.toNat : Int)]) (.int .i64 2)).run Tryd.prog w = .ok (.int .u8 (c.toNat : Int)) w := by kernel_rfl
theorem ix3 (a b c d e f : UInt8) (w : World) : (Instr.index 24 (.agg #[.int .u8 (a.toNat : Int), .int .u8 (b.toNat : Int), .int .u8 (c.toNat : Int), .int .u8 (d.toNat : Int), .int .u8 (e.toNat : Int), .int .u8 (f.toNat : Int)]) (.int .i64 3)).run Tryd.prog w = .ok (.int .u8 (d.toNat : Int)) w := by kernel_rfl
theorem ix4 (a b c d e f : UInt8) (w : World) : (Instr.index 24 (.agg #[.int .u8 (a.toNat : Int), .int .u8 (b.toNat : Int), .int .u8 (c.toNat : Int), .int .u8 (d.toNat : Int), .int .u8 (e.toNat : Int), .int .u8 (f.toNat : Int)]) (.int .i64 4)).run Tryd.prog w = .ok (.int .u8 (e.toNat : Int)) w := by kernel_rfl
theorem ix5 (a b c d e f : UInt8) (w : World) : (Instr.index 24 (.agg #[.int .u8 (a.toNat : Int), .int .u8 (b.toNat : Int), .int .u8 (c.toNat : Int), .int .u8 (d.toNat : Int), .int .u8 (e.toNat : Int), .int .u8 (f.toNat : Int)]) (.int .i64 5)).run Tryd.prog w = .ok (.int .u8 (f.toNat : Int)) w := by kernel_rfl
set_option maxHeartbeats 1000000 in
theorem Number_yes (a b c d e f : UInt8) (w : World) :
    Calls Tryd.prog 11 #[mv [a, b, c, d, e, f]] w fun e' w' => e' = .returned (.int .u64 (numL [a, b, c, d, e, f] : Int)) ∧ w' = w.alloc (.cells (bys [a, b, c, d, e, f]).toArray 24) := by
  rw [mv6]
  go_enter Tryd.func11, Tryd.ntmps11
  go_wp2
  go_loop [3, 7] (fun n i => ∃ (k : Nat) (z : Int), k ≤ 6 ∧ i = .int .i64 k ∧ n = .int .u64 z ∧ Hid (z = (numL ([a, b, c, d, e, f].take k) : Int))) (fun _ i => 6 - (intOf i).toNat)
  case atStart => exact ⟨0, 0, Nat.zero_le _, rfl, rfl, rfl⟩
  case round =>
    obtain ⟨k, z, hk, rfl, rfl, hz⟩ := hrel
    by_cases hlt : k < 6
    · rcases (show k = 0 ∨ k = 1 ∨ k = 2 ∨ k = 3 ∨ k = 4 ∨ k = 5 by omega) with rfl | rfl | rfl | rfl | rfl | rfl
      · have HJ := Lib.hid (join64 (numL ([] : List UInt8)) a (by have h := numL_lt ([] : List UInt8); simp only [List.length_cons, List.length_nil, Nat.reduceAdd, Nat.reducePow] at h; omega))
        have hix := ix0 a b c d e f
        go_wp2
        go_round
        case rel => exact ⟨1, _, by omega, rfl, rfl, by rw [hz.out]; show _ = ((numL (([] : List UInt8) ++ [a]) : Nat) : Int); rw [numL_snoc]; exact HJ.out⟩
        case measure => simp [intOf]
      · have HJ := Lib.hid (join64 (numL [a]) b (by have h := numL_lt [a]; simp only [List.length_cons, List.length_nil, Nat.reduceAdd, Nat.reducePow] at h; omega))
        have hix := ix1 a b c d e f
        go_wp2
        go_round
        case rel => exact ⟨2, _, by omega, rfl, rfl, by rw [hz.out]; show _ = ((numL ([a] ++ [b]) : Nat) : Int); rw [numL_snoc]; exact HJ.out⟩
        case measure => simp [intOf]
      · have HJ := Lib.hid (join64 (numL [a, b]) c (by have h := numL_lt [a, b]; simp only [List.length_cons, List.length_nil, Nat.reduceAdd, Nat.reducePow] at h; omega))
        have hix := ix2 a b c d e f
        go_wp2
        go_round
        case rel => exact ⟨3, _, by omega, rfl, rfl, by rw [hz.out]; show _ = ((numL ([a, b] ++ [c]) : Nat) : Int); rw [numL_snoc]; exact HJ.out⟩
        case measure => simp [intOf]
      · have HJ := Lib.hid (join64 (numL [a, b, c]) d (by have h := numL_lt [a, b, c]; simp only [List.length_cons, List.length_nil, Nat.reduceAdd, Nat.reducePow] at h; omega))
        have hix := ix3 a b c d e f
        go_wp2
        go_round
        case rel => exact ⟨4, _, by omega, rfl, rfl, by rw [hz.out]; show _ = ((numL ([a, b, c] ++ [d]) : Nat) : Int); rw [numL_snoc]; exact HJ.out⟩
        case measure => simp [intOf]
      · have HJ := Lib.hid (join64 (numL [a, b, c, d]) e (by have h := numL_lt [a, b, c, d]; simp only [List.length_cons, List.length_nil, Nat.reduceAdd, Nat.reducePow] at h; omega))
        have hix := ix4 a b c d e f
        go_wp2
        go_round
        case rel => exact ⟨5, _, by omega, rfl, rfl, by rw [hz.out]; show _ = ((numL ([a, b, c, d] ++ [e]) : Nat) : Int); rw [numL_snoc]; exact HJ.out⟩
        case measure => simp [intOf]
      · have HJ := Lib.hid (join64 (numL [a, b, c, d, e]) f (by have h := numL_lt [a, b, c, d, e]; simp only [List.length_cons, List.length_nil, Nat.reduceAdd, Nat.reducePow] at h; omega))
        have hix := ix5 a b c d e f
        go_wp2
        go_round
        case rel => exact ⟨6, _, by omega, rfl, rfl, by rw [hz.out]; show _ = ((numL ([a, b, c, d, e] ++ [f]) : Nat) : Int); rw [numL_snoc]; exact HJ.out⟩
        case measure => simp [intOf]
    · have : k = 6 := by omega
      subst this
      go_wp2
      go_ret
      exact ⟨by rw [hz.out]; rfl, rfl⟩
theorem u8_of (n : Nat) (x : Int) (hx : x = (n : Int)) : x % 256 = ((UInt8.ofNat n).toNat : Int) := by rw [UInt8.toNat_ofNat']; omega
set_option maxHeartbeats 1000000 in
theorem Of_yes (n : Nat) (hn : n < 18446744073709551616) (w : World) :
    Calls Tryd.prog 13 #[.int .u64 (n : Int)] w fun e' w' => e' = .returned (mv (ofL n)) ∧ Kept Nil w w' := by
  go_enter Tryd.func13, Tryd.ntmps13
  go_wp2
  go_rounds 7
  refine bodyPost_ret (v := .agg #[.int .u8 ((n : Int) / 256 / 256 / 256 / 256 / 256 % 256), .int .u8 ((n : Int) / 256 / 256 / 256 / 256 % 256), .int .u8 ((n : Int) / 256 / 256 / 256 % 256), .int .u8 ((n : Int) / 256 / 256 % 256), .int .u8 ((n : Int) / 256 % 256), .int .u8 ((n : Int) % 256)]) (by simp [results, Tryd.results13, go_sem]) rfl ⟨?_, ((Kept.refl Nil w).alloc _).alloc _⟩
  rw [u8_of (n / 2 ^ 40) _ (by omega), u8_of (n / 2 ^ 32) ((n : Int) / 256 / 256 / 256 / 256) (by omega), u8_of (n / 2 ^ 24) ((n : Int) / 256 / 256 / 256) (by omega), u8_of (n / 2 ^ 16) ((n : Int) / 256 / 256) (by omega), u8_of (n / 2 ^ 8) ((n : Int) / 256) (by omega), u8_of n (n : Int) rfl]
  rfl

theorem and8 (a b : UInt8) : bits .and .u8 (a.toNat : Int) (b.toNat : Int) = ((a &&& b).toNat : Int) := by
  rw [u8_and_nat _ _ a.toNat_lt b.toNat_lt, UInt8.toNat_and]
set_option maxHeartbeats 1000000 in
theorem Masked_yes (a b c d e f a' b' c' d' e' f' : UInt8) (w : World) :
    Calls Tryd.prog 20 #[mv [a, b, c, d, e, f], mv [a', b', c', d', e', f']] w fun r w' => r = .returned (mv [a &&& a', b &&& b', c &&& c', d &&& d', e &&& e', f &&& f']) ∧ Kept Nil w w' := by
  rw [mv6, mv6]
  have h0 := and8 a a'
  have h1 := and8 b b'
  have h2 := and8 c c'
  have h3 := and8 d d'
  have h4 := and8 e e'
  have h5 := and8 f f'
  go_enter Tryd.func20, Tryd.ntmps20
  go_wp2
  refine wp_loop_rounds 7 ?_
  iterate 6 (rw [rounds_succ]; go_wp2; go_region; go_wp2)
  rw [rounds_succ]
  go_wp2
  refine bodyPost_ret (v := .agg #[.int .u8 ((a.toNat &&& a'.toNat : Nat) : Int), .int .u8 ((b.toNat &&& b'.toNat : Nat) : Int), .int .u8 ((c.toNat &&& c'.toNat : Nat) : Int), .int .u8 ((d.toNat &&& d'.toNat : Nat) : Int), .int .u8 ((e.toNat &&& e'.toNat : Nat) : Int), .int .u8 ((f.toNat &&& f'.toNat : Nat) : Int)]) (by simp [results, Tryd.results20, go_sem]) rfl ⟨?_, ((((((((((Kept.refl Nil w).alloc _).alloc _).alloc _).drew).drew).drew).drew).drew).drew)⟩
  rw [mv6, UInt8.toNat_and, UInt8.toNat_and, UInt8.toNat_and, UInt8.toNat_and, UInt8.toNat_and, UInt8.toNat_and]

/-- The mask of k bits. -/
def maskL (k : Nat) : List UInt8 := ofL (2 ^ 64 - 2 ^ (48 - k))
theorem shl48 : ∀ k : Fin 49, IntKind.u64.wrap (18446744073709551615 * 2 ^ (48 - k.val)) = ((2 ^ 64 - 2 ^ (48 - k.val) : Nat) : Int) := by decide +kernel
set_option maxHeartbeats 1000000 in
theorem Bits_at (n : Int) (k : Nat) (hk : k ≤ 48) (hn : (n < 0 ∧ k = 0) ∨ (48 < n ∧ k = 48) ∨ n = (k : Int)) (w : World) :
    Calls Tryd.prog 18 #[.int .i64 n] w fun r w' => r = .returned (mv (maskL k)) ∧ Kept Nil w w' := by
  have hs := shl48 ⟨k, by omega⟩
  simp only at hs
  obtain ⟨x, hx⟩ : ∃ x : Nat, x = 2 ^ 64 - 2 ^ (48 - k) := ⟨_, rfl⟩
  have hx2 : x < 18446744073709551616 := by
    have : 0 < 2 ^ (48 - k) := Nat.two_pow_pos _
    omega
  rw [← hx] at hs
  have hm : maskL k = ofL x := by rw [hx]; rfl
  rw [hm]
  have HS := Lib.hid hs
  have HX2 := Lib.hid hx2
  clear hs hx hm hx2
  have key : ∀ W : World, Calls Tryd.prog 13 #[.int .u64 (IntKind.u64.wrap (18446744073709551615 * 2 ^ (48 - k)))] W fun e' w' => e' = .returned (mv (ofL x)) ∧ Kept Nil W w' := fun W => by
    rw [HS.out]; exact Of_yes x HX2.out W
  have HKEY := Lib.hid key
  clear key
  obtain ⟨a, b, c, d, e, f, ho⟩ := six (ofL x) rfl
  have HO := Lib.hid ho
  clear ho
  rcases hn with ⟨h1, rfl⟩ | ⟨h1, rfl⟩ | rfl
  all_goals
    go_enter Tryd.func18, Tryd.ntmps18
    go_wp2_with fail
    refine (HKEY.out _).mono ?_
    rintro e' w1 ⟨rfl, hk1⟩
    rw [HO.out, mv6]
    have hb0 := (Blo.new w 24 #[.int .u8 0, .int .u8 0, .int .u8 0, .int .u8 0, .int .u8 0, .int .u8 0]).kept hk1 (fun hf => hf)
    have c0 := hb0.cell 0
    have c1 := hb0.cell 1
    have c2 := hb0.cell 2
    have c3 := hb0.cell 3
    have c4 := hb0.cell 4
    have c5 := hb0.cell 5
    have f0 := hb0.frozen 0
    have f1 := hb0.frozen 1
    have f2 := hb0.frozen 2
    have f3 := hb0.frozen 3
    have f4 := hb0.frozen 4
    have f5 := hb0.frozen 5
    simp at c0 c1 c2 c3 c4 c5
    have HK1 := Lib.hid hk1
    clear hk1 hb0
    go_wp2
    refine bodyPost_ret (v := .agg #[.int .u8 a.toNat, .int .u8 b.toNat, .int .u8 c.toNat, .int .u8 d.toNat, .int .u8 e.toNat, .int .u8 f.toNat]) (by simp [results, Tryd.results18, go_sem, c0, c1, c2, c3, c4, c5]) rfl ⟨by rw [HO.out, mv6], ?_⟩
    exact ((Kept.refl Nil w).alloc _).fresh ((((((((HK1.out.nil (F := fun i => w.heap.size ≤ i)).put (Nat.le_refl _) _).put (Nat.le_refl _) _).put (Nat.le_refl _) _).put (Nat.le_refl _) _).put (Nat.le_refl _) _).put (Nat.le_refl _) _)) (fun i hi => hi)
theorem and1 (a : UInt8) : bits .and .u8 (a.toNat : Int) 1 = ((a.toNat % 2 : Nat) : Int) := by
  have := u8_and_nat a.toNat 1 a.toNat_lt (by omega)
  rw [show ((1 : Nat) : Int) = 1 from rfl] at this
  rw [this, show (1 : Nat) = 2 ^ 1 - 1 from rfl, Nat.and_two_pow_sub_one_eq_mod]
set_option maxHeartbeats 1000000 in
theorem IsGroup_yes (a b c d e f : UInt8) (w : World) :
    Calls Tryd.prog 17 #[mv [a, b, c, d, e, f]] w fun r w' => r = .returned (.bool (a.toNat % 2 == 1)) ∧ Kept Nil w w' := by
  rw [mv6]
  have HA := Lib.hid (and1 a)
  go_enter Tryd.func17, Tryd.ntmps17
  go_wp2
  go_ret
  refine ⟨?_, (Kept.refl Nil w).alloc _⟩
  show Ending.returned (.bool (bits .and .u8 (a.toNat : Int) 1 == 1)) = _
  rw [HA.out]
  congr 2
  rw [Bool.eq_iff_iff]
  simp
  omega
/-- Whether an address is a reserved one. -/
def rsvL (l : List UInt8) : Bool := match l with
  | [a, b, c, d, e, f] => decide ([a, b, c, d, e] = [1, 128, 194, 0, 0] ∧ f.toNat < 16)
  | _ => false
set_option maxHeartbeats 1000000 in
theorem isReserved_yes (a b c d e f : UInt8) (w : World) :
    Calls Tryd.prog 35 #[mv [a, b, c, d, e, f]] w fun r w' => r = .returned (.bool (rsvL [a, b, c, d, e, f])) ∧ Kept Nil w w' := by
  rw [mv6]
  have he := meq [a, b, c, d, e, f] [1, 128, 194, 0, 0, f] rfl rfl
  have he2 : ∀ w, (Op.equalIn 10000 24 (.agg #[.int .u8 (a.toNat : Int), .int .u8 (b.toNat : Int), .int .u8 (c.toNat : Int), .int .u8 (d.toNat : Int), .int .u8 (e.toNat : Int), .int .u8 (f.toNat : Int)]) (.agg #[.int .u8 1, .int .u8 128, .int .u8 194, .int .u8 0, .int .u8 0, .int .u8 (f.toNat : Int)])).run Tryd.prog w = .ok ([a, b, c, d, e, f] == [1, 128, 194, 0, 0, f]) w := he
  clear he
  by_cases hr : [a, b, c, d, e, f] = [1, 128, 194, 0, 0, f]
  · rw [show ([a, b, c, d, e, f] == [1, 128, 194, 0, 0, f]) = true from by simpa using hr] at he2
    have HR := Lib.hid hr
    clear hr
    go_enter Tryd.func35, Tryd.ntmps35
    go_wp2
    go_ret
    refine ⟨?_, (Kept.refl Nil w).alloc _⟩
    have hr := HR.out
    simp at hr
    obtain ⟨rfl, rfl, rfl, rfl, rfl⟩ := hr
    show Ending.returned (.bool (decide ((f.toNat : Int) < 16))) = _
    congr 2
    rw [Bool.eq_iff_iff]
    simp [rsvL]
    omega
  · rw [show ([a, b, c, d, e, f] == [1, 128, 194, 0, 0, f]) = false from by simpa using hr] at he2
    have HR := Lib.hid hr
    clear hr
    go_enter Tryd.func35, Tryd.ntmps35
    go_wp2
    go_ret
    refine ⟨?_, (Kept.refl Nil w).alloc _⟩
    have hr := HR.out
    show Ending.returned (.bool false) = _
    congr 2
    symm
    rw [rsvL, decide_eq_false_iff_not]
    intro h
    apply hr
    have h1 := h.1
    simp at h1
    simp [h1]
end Go.Proofs.YtifoepglhlpoiaaDoor
