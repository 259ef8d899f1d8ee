/- Texts that belong together, one behind the other: RaT, Shelf. Conditions: those of each. -/
import Derived.Test.YtiehmpiaddjhiaaDoorMg16
import Derived.Shelf.Strconv.Itoa0
import Derived.Shelf.Strconv.Itoa1
import Derived.Shelf.LaysM
import Derived.Shelf.Strconv.Itoa2
import Derived.Shelf.Bits.Mul64
import Derived.Test.YtiehmpiaddjhiaaDoorProg
/- Package rate: Wait. -/
namespace Go.Proofs.YtiehmpiaddjhiaaDoor
open Go.RowKit Go.Sort
set_option linter.unusedVariables false

def waV (t : Nat) : Value := if 1099511627776 < t then .tuple #[.int .i64 0, .bool false] else .tuple #[.int .i64 (t : Int), .bool true]
def zBk : Bk := ⟨0, 0, 0, 0⟩
theorem al_bk (u : World) : (Instr.alloc 26 true (.tuple #[])).run Tryd.prog u = .ok (.pointer (some ⟨u.heap.size, 0, none⟩)) (u.alloc (.cells (bkl zBk).toArray 26)) := by kernel_rfl
set_option maxRecDepth 100000 in
set_option maxHeartbeats 4000000 in
theorem wait_yes (g : Nat) (m : Bk) (hm : m.ok) (n : Nat) (hn : n < 18446744073709551616) (w : World) (hb : KB w g m) : Calls Tryd.prog 14 #[.pointer (some ⟨g, 0, none⟩), .float .f64 n] w fun e w' => e = .returned (waV (lsM (isSo (clB m) (clF n)) 41 0 1099511627777)) ∧ Kept Nil w w' := by
  have HM := Lib.hid hm
  have HN := Lib.hid hn
  have hC : Blo (w.alloc (.cells #[.float .f64 n] 24)) w.heap.size 24 #[.float .f64 n] := Blo.new w _ _
  have hk0 := (Kept.refl Nil w).alloc (.cells #[.float .f64 n] 24)
  have hB := hb.kept hk0 (fun hf => hf)
  clear hm hn hb
  obtain ⟨R, hR⟩ : ∃ R, lsM (isSo (clB m) (clF n)) 41 0 1099511627777 = R := ⟨_, rfl⟩
  rw [hR]
  have HRR := Lib.hid hR
  clear hR
  go_enter Tryd.func14, Tryd.ntmps14
  go_upto_region 3 with (fail)
  refine wp_nameE (fun W => KB W g m ∧ Blo W w.heap.size 24 #[.float .f64 n] ∧ Kept Nil w W) ⟨hB, hC, hk0⟩ ?_
  clear hB hC hk0
  rintro W ⟨hB, hC, hk⟩
  obtain ⟨g3, hg3⟩ : ∃ x, w.heap.size = x := ⟨_, rfl⟩
  rw [hg3] at hC ⊢
  have HG3 := Lib.hid (show w.heap.size ≤ g3 by omega)
  have HB := Lib.hid hB
  have HC := Lib.hid hC
  have HK := Lib.hid hk
  clear hB hC hk hg3
  refine wp_region_acts Nil [] (fun i vl => ((bkl zBk).toArray, 26)) (fun i => if i = 1 then .pointer (some ⟨g, 0, none⟩) else if i = 3 then bkv (clB m) else .float .f64 (clF n)) (fun _ _ _ => True) (fun _ _ => True) 7 (by kernel_rfl) (by kernel_rfl) ⟨fun _ _ _ _ h _ => h, fun _ _ _ _ h => h⟩ trivial ?_
  simp only [List.take_succ_cons, List.take_zero, List.drop_succ_cons, List.drop_zero]
  refine tLex_quiets 6 rfl (by kernel_rfl) ?_
  simp only [List.take_succ_cons, List.take_zero, List.drop_succ_cons, List.drop_zero]
  apply Exists.intro
  refine ⟨?hq1, ?hv1, ?ht1⟩
  case hq1 =>
    intro V hV
    have HR := Lib.hid ((HB.out.kept hV (fun hf => hf)).all)
    have HCC := Lib.hid (fun d os => (kept_grown' V d os).cell ((HC.out.kept hV (fun hf => hf)).cell 0) (fun hf => hf))
    have hcc := HCC.out
    simp at hcc
    clear hV
    go_big_quiet_step (fail)
    go_big_quiet_step (fail)
    refine wpQuiet_ld rfl _ _ rfl g 0 rfl (bkl m) (fun w' hw => row_grown HR.out hw) _ Tryd.underlying26 rfl (infBk _) ?_; simp only [Act.put, List.setIfInBounds_toArray, List.set_cons_succ, List.set_cons_zero]
    go_big_quiet_step (exact quietK (bclean_yes m HM.out _))
    go_big_quiet_step (fail)
    go_big_quiet_step (exact quietK (fclean_yes n HN.out _))
    exact wpQuiet_nil rfl
  case hv1 => exact ⟨trivial, rfl, trivial, rfl, trivial, rfl, trivial⟩
  case ht1 =>
    refine tLex_make ((bkl zBk).toArray, 26) rfl rfl rfl rfl (fun u => ?hm2) ?_
    case hm2 =>
      unfold execOp
      simp only [mkVal, Sem.run_bind, Sem.run_pure, al_bk, Result.andThen_ok]
    intro gq hgq hLq
    simp only [Act.put, mkVal, List.setIfInBounds_toArray, List.set_cons_succ, List.set_cons_zero]
    intro w6 hs
    have HBQ := Lib.hid (show KB w6 gq zBk from (hs.made gq _ (mput_same _ _ _)).2)
    have HK6 := Lib.hid hs.kept
    have HC6 := Lib.hid (HC.out.kept hs.kept (fun hf => hf))
    have HB6 := Lib.hid (HB.out.kept hs.kept (fun hf => hf))
    have HGQ := Lib.hid (show W.heap.size ≤ gq from hgq)
    have HNE := Lib.hid (show g3 ≠ gq from fun e => by have h1 := HC.out.lt; have h2 := HGQ.out; omega)
    clear hs hgq hLq
    go_upto_region 4 with (first
      | (refine wpList_st rfl 26 (.tmp 6) _ rfl gq 0 rfl (bkl (clB m)) _ rfl rfl (infBk _) 26 _ HBQ.out (by show 0 + 4 ≤ 4; decide) (bkl_one _) ?_; intro w7 hb7 hk7 hz7; simp only [Act.put, List.setIfInBounds_toArray, List.set_cons_succ, List.set_cons_zero]; have HC7 := Lib.hid (HC6.out.kept hk7 (fun hf => HNE.out hf)))
      | (refine wpList_st rfl 24 (.tmp 3) _ rfl g3 0 rfl [.float .f64 (clF n)] _ rfl rfl infFl 24 _ HC7.out (by show 0 + 1 ≤ 1; decide) (by intro u hu; obtain rfl := List.mem_singleton.1 hu; rfl) ?_; intro w8 hb8 hk8 hz8; simp only [Act.put, List.setIfInBounds_toArray, List.set_cons_succ, List.set_cons_zero])
      | fail)
    have h6 : KB w8 gq (clB m) := KB.kept (m := clB m) hb7 hk8 (fun hf => HNE.out (Eq.symm hf))
    have h3 : w8.cell? ⟨g3, 0, none⟩ = some (.float .f64 (clF n)) := by
      have := Blo.cell (i := 0) hb8
      simpa using this
    have HK8 := Lib.hid ((HK.out.trans HK6.out (fun _ _ hf => hf)).fresh hk7 (fun i hi => by have h1 := HGQ.out; have h2 : i = gq := hi; have h3 := HK.out.size; omega) |>.fresh hk8 (fun i hi => by have h1 := HG3.out; have h2 : i = g3 := hi; omega))
    have hL := least_yes gq g3 (clB m) (clB_cl HM.out) (clF n) (clF_le HN.out) w8 h6 h3
    rw [HRR.out] at hL
    have HL := Lib.hid hL
    clear hb7 hb8 hk7 hk8 hz7 hz8 h6 h3 hL
    go_wp2_with (fail)
    refine HL.out.mono ?_
    rintro e w9 ⟨rfl, hk⟩
    have HK9 := Lib.hid (HK8.out.then hk)
    clear hk
    dsimp only
    by_cases hgt : 1099511627776 < R
    · go_wp2_with (fail)
      go_ret2
      exact ⟨by unfold waV; rw [if_pos hgt]; rfl, HK9.out⟩
    · go_wp2_with (fail)
      go_ret2
      exact ⟨by unfold waV; rw [if_neg hgt]; rfl, HK9.out⟩
end Go.Proofs.YtiehmpiaddjhiaaDoor
/- Contracts of the library's shelf at this program, those alone that my texts use. -/
namespace Go.Proofs
open Go.Shelf
def Tryd.lays129_ren : Go.Shelf.Ren := ⟨fun | 129 => 47 | n => n, fun | 53 => 22 | 3 => 3 | 4 => 4 | 46 => 93 | 5 => 5 | 9 => 9 | n => n, fun | n => n⟩
theorem Tryd.lays129 : Go.Proofs.Lays.n129 Tryd.prog Tryd.lays129_ren := {
  mixed := by kernel_rfl
  f129 := Tryd.func47.trans (congrArg some (by kernel_rfl))
  t3 := Tryd.underlying3
  a3 := Tryd.isAgg3
  z3 := Tryd.sizeOf3
  v3 := Tryd.zeroValue3
  t4 := Tryd.underlying4
  a4 := Tryd.isAgg4
  z4 := Tryd.sizeOf4
  v4 := Tryd.zeroValue4
  t5 := Tryd.underlying5
  a5 := Tryd.isAgg5
  z5 := Tryd.sizeOf5
  v5 := Tryd.zeroValue5
  t9 := Tryd.underlying9
  a9 := Tryd.isAgg9
  z9 := Tryd.sizeOf9
  v9 := Tryd.zeroValue9
  t46 := Tryd.underlying93
  a46 := Tryd.isAgg93
  z46 := Tryd.sizeOf93
  v46 := Tryd.zeroValue93
  t53 := Tryd.underlying22
  a53 := Tryd.isAgg22
  z53 := Tryd.sizeOf22
  v53 := Tryd.zeroValue22 }
theorem Tryd.bits_Len64 (x : Int) (w : World) (h0 : 0 ≤ x) (h1 : x ≤ 18446744073709551615) :
    Calls Tryd.prog 47 #[.int .u64 x] w fun e w' => e = .returned (.int .i64 (Lib.bitLen x.toNat)) ∧ w' = w := Any.bits_Len64 Tryd.lays129 x w h0 h1
def Tryd.laysM284_ren : Go.Shelf.Ren := ⟨fun | 284 => 50 | 129 => 47 | 317 => 51 | 318 => 69 | n => n, fun | 53 => 22 | 3 => 3 | 212 => 105 | 0 => 0 | 4 => 4 | 46 => 93 | 5 => 5 | 9 => 9 | n => n, fun | 17 => 3 | n => n⟩
theorem Tryd.laysM284 : Go.Proofs.LaysM.n284 Tryd.prog Tryd.laysM284_ren := {
  mixed := by kernel_rfl
  f129 := Tryd.func47.trans (congrArg some (by kernel_rfl))
  f284 := Tryd.func50.trans (congrArg some (by kernel_rfl))
  f317 := Tryd.func51.trans (congrArg some (by kernel_rfl))
  f318 := Tryd.func69.trans (congrArg some (by kernel_rfl))
  t0 := Tryd.underlying0
  a0 := Tryd.isAgg0
  z0 := Tryd.sizeOf0
  v0 := Tryd.zeroValue0
  t3 := Tryd.underlying3
  a3 := Tryd.isAgg3
  z3 := Tryd.sizeOf3
  v3 := Tryd.zeroValue3
  t4 := Tryd.underlying4
  a4 := Tryd.isAgg4
  z4 := Tryd.sizeOf4
  v4 := Tryd.zeroValue4
  t5 := Tryd.underlying5
  a5 := Tryd.isAgg5
  z5 := Tryd.sizeOf5
  v5 := Tryd.zeroValue5
  t9 := Tryd.underlying9
  a9 := Tryd.isAgg9
  z9 := Tryd.sizeOf9
  v9 := Tryd.zeroValue9
  t46 := Tryd.underlying93
  a46 := Tryd.isAgg93
  z46 := Tryd.sizeOf93
  v46 := Tryd.zeroValue93
  t53 := Tryd.underlying22
  a53 := Tryd.isAgg22
  z53 := Tryd.sizeOf22
  v53 := Tryd.zeroValue22
  t212 := Tryd.underlying105
  a212 := Tryd.isAgg105
  z212 := Tryd.sizeOf105
  v212 := Tryd.zeroValue105
  g17 := by kernel_rfl
  i0 := by kernel_rfl
  i3 := by kernel_rfl
  i4 := by kernel_rfl
  i5 := by kernel_rfl
  i9 := by kernel_rfl
  i46 := by kernel_rfl
  i53 := by kernel_rfl
  i212 := by kernel_rfl
  m17 := by kernel_rfl }
open Go.Lib in
theorem Tryd.internal_strconv_numDigits (u : Nat) (h1 : 1 ≤ u) (h2 : u < 18446744073709551616) (w : World) (htab : Lib.TabIs Tryd.prog w "internal/strconv.uint64pow10" .u64 Lib.pow10Tab) :
    Calls Tryd.prog 50 #[.int .u64 u] w fun e w' => e = .returned (.int .i64 (Lib.nDigits u)) ∧ w' = w := Any.internal_strconv_numDigits Tryd.laysM284 u h1 h2 w htab
def Tryd.lays285_ren : Go.Shelf.Ren := ⟨fun | 285 => 68 | n => n, fun | 37 => 68 | 53 => 22 | 3 => 3 | 4 => 4 | 51 => 47 | 9 => 9 | 5 => 5 | 0 => 0 | n => n, fun | n => n⟩
theorem Tryd.lays285 : Go.Proofs.Lays.n285 Tryd.prog Tryd.lays285_ren := {
  mixed := by kernel_rfl
  f285 := Tryd.func68.trans (congrArg some (by kernel_rfl))
  t0 := Tryd.underlying0
  a0 := Tryd.isAgg0
  z0 := Tryd.sizeOf0
  v0 := Tryd.zeroValue0
  t3 := Tryd.underlying3
  a3 := Tryd.isAgg3
  z3 := Tryd.sizeOf3
  v3 := Tryd.zeroValue3
  t4 := Tryd.underlying4
  a4 := Tryd.isAgg4
  z4 := Tryd.sizeOf4
  v4 := Tryd.zeroValue4
  t5 := Tryd.underlying5
  a5 := Tryd.isAgg5
  z5 := Tryd.sizeOf5
  v5 := Tryd.zeroValue5
  t9 := Tryd.underlying9
  a9 := Tryd.isAgg9
  z9 := Tryd.sizeOf9
  v9 := Tryd.zeroValue9
  t37 := Tryd.underlying68
  a37 := Tryd.isAgg68
  z37 := Tryd.sizeOf68
  v37 := Tryd.zeroValue68
  t51 := Tryd.underlying47
  a51 := Tryd.isAgg47
  z51 := Tryd.sizeOf47
  v51 := Tryd.zeroValue47
  t53 := Tryd.underlying22
  a53 := Tryd.isAgg22
  z53 := Tryd.sizeOf22
  v53 := Tryd.zeroValue22 }
open Go.RowKit Go.Sort Go.Lib in
theorem Tryd.internal_strconv_formatBase10 (blk off cap : Nat) (u : Nat) (d : Array UInt8) (w : World) (hH : Holds (fun (b : UInt8) => Value.int .u8 (b.toNat : Int)) w blk off d) (hu : u < 10 ^ d.size) (hu64 : u < 18446744073709551616) (hsz : d.size < 4611686018427387904) :
    Calls Tryd.prog 68 #[.slice (some ⟨blk, off, none⟩) d.size cap, .int .u64 u] w fun e w' =>
      e = .returned (.tuple #[]) ∧ ∃ (n v' : Nat) (dk : Array UInt8), w' = (putRow (fun (b : UInt8) => Value.int .u8 (b.toNat : Int)) w blk off dk).drewN n ∧ FmtInv d.size u 0 v' dk := Any.internal_strconv_formatBase10 Tryd.lays285 blk off cap u d w hH hu hu64 hsz
def Tryd.lays264_ren : Go.Shelf.Ren := ⟨fun | 264 => 80 | n => n, fun | 53 => 22 | 46 => 93 | n => n, fun | n => n⟩
theorem Tryd.lays264 : Go.Proofs.Lays.n264 Tryd.prog Tryd.lays264_ren := {
  mixed := by kernel_rfl
  f264 := Tryd.func80.trans (congrArg some (by kernel_rfl))
  t46 := Tryd.underlying93
  a46 := Tryd.isAgg93
  z46 := Tryd.sizeOf93
  v46 := Tryd.zeroValue93
  t53 := Tryd.underlying22
  a53 := Tryd.isAgg22
  z53 := Tryd.sizeOf22
  v53 := Tryd.zeroValue22 }
open Go.RowKit Go.Lib in
theorem Tryd.bits_Mul64 (x y : Nat) (hx : x < 18446744073709551616) (hy : y < 18446744073709551616) (w : World) :
    Calls Tryd.prog 80 #[.int .u64 x, .int .u64 y] w fun e w' => e = .returned (.tuple #[.int .u64 ((x * y / 18446744073709551616 : Nat) : Int), .int .u64 ((x * y % 18446744073709551616 : Nat) : Int)]) ∧ w' = w := Any.bits_Mul64 Tryd.lays264 x y hx hy w
end Go.Proofs
