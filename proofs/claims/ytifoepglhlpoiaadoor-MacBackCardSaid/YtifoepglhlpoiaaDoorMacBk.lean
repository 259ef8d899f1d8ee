/- tolllaw02.MacBack: the walk. -/
import Derived.Test.YtifoepglhlpoiaaDoorBkM
import Derived.Test.YtifoepglhlpoiaaDoorMacT
import Derived.Test.YtifoepglhlpoiaaDoorLaid
import Derived.Test.YtifoepglhlpoiaaDoorRegO
import Derived.Test.YtifoepglhlpoiaaDoorFrameA
import Derived.Deep.DeepCutAuto
namespace Go.Proofs.YtifoepglhlpoiaaDoor
open Go.RowKit Go.Sort Go.BigFrame
set_option linter.unusedVariables false

theorem meq9 (l m : List UInt8) (hl : l.length = 6) (hm : m.length = 6) (w : World) : (Op.equalIn 9999 24 (.agg (bys l).toArray) (.agg (bys m).toArray)).run Tryd.prog w = .ok (l == m) w :=
  run_equalIn_bytes w 9997 24 5 6 Tryd.underlying24 Tryd.underlying5 msiz5 l m hl hm
/-- A pattern is the same as itself. -/
theorem peq (x0 x1 x2 x3 x4 x5 y0 y1 y2 y3 y4 y5 : UInt8) (w : World) : (Op.equalIn 10000 26 (.agg #[.int .u8 (x0.toNat : Int), .int .u8 (x1.toNat : Int), .int .u8 (x2.toNat : Int), .int .u8 (x3.toNat : Int), .int .u8 (x4.toNat : Int), .int .u8 (x5.toNat : Int), .int .u8 (y0.toNat : Int), .int .u8 (y1.toNat : Int), .int .u8 (y2.toNat : Int), .int .u8 (y3.toNat : Int), .int .u8 (y4.toNat : Int), .int .u8 (y5.toNat : Int)]) (.agg #[.int .u8 (x0.toNat : Int), .int .u8 (x1.toNat : Int), .int .u8 (x2.toNat : Int), .int .u8 (x3.toNat : Int), .int .u8 (x4.toNat : Int), .int .u8 (x5.toNat : Int), .int .u8 (y0.toNat : Int), .int .u8 (y1.toNat : Int), .int .u8 (y2.toNat : Int), .int .u8 (y3.toNat : Int), .int .u8 (y4.toNat : Int), .int .u8 (y5.toNat : Int)])).run Tryd.prog w = .ok true w := by
  rw [run_equalIn_struct w 9999 26 _ _ (by kernel_rfl) (by kernel_rfl)]
  have h1 := meq9 [x0, x1, x2, x3, x4, x5] [x0, x1, x2, x3, x4, x5] rfl rfl w
  have h2 := meq9 [y0, y1, y2, y3, y4, y5] [y0, y1, y2, y3, y4, y5] rfl rfl w
  rw [beq_self_eq_true] at h1 h2
  have p1 : ∀ w, (part 24 #[.int .u8 (x0.toNat : Int), .int .u8 (x1.toNat : Int), .int .u8 (x2.toNat : Int), .int .u8 (x3.toNat : Int), .int .u8 (x4.toNat : Int), .int .u8 (x5.toNat : Int), .int .u8 (y0.toNat : Int), .int .u8 (y1.toNat : Int), .int .u8 (y2.toNat : Int), .int .u8 (y3.toNat : Int), .int .u8 (y4.toNat : Int), .int .u8 (y5.toNat : Int)] 0).run Tryd.prog w = .ok (.agg (bys [x0, x1, x2, x3, x4, x5]).toArray) w := fun _ => by kernel_rfl
  have p2 : ∀ w, (part 24 #[.int .u8 (x0.toNat : Int), .int .u8 (x1.toNat : Int), .int .u8 (x2.toNat : Int), .int .u8 (x3.toNat : Int), .int .u8 (x4.toNat : Int), .int .u8 (x5.toNat : Int), .int .u8 (y0.toNat : Int), .int .u8 (y1.toNat : Int), .int .u8 (y2.toNat : Int), .int .u8 (y3.toNat : Int), .int .u8 (y4.toNat : Int), .int .u8 (y5.toNat : Int)] 6).run Tryd.prog w = .ok (.agg (bys [y0, y1, y2, y3, y4, y5]).toArray) w := fun _ => by kernel_rfl
  simp only [Program.fieldsOf, Tryd.underlying26]
  simp [Op.eqFields, p1, p2, h1, h2]
theorem below_kept {w w' : World} (h : Below w.heap.size w w') : Kept Nil w w' := Kept.of_below h

set_option maxRecDepth 100000 in
set_option maxHeartbeats 16000000 in
theorem mback_yes (a0 a1 a2 a3 a4 a5 b0 b1 b2 b3 b4 b5 : UInt8) (s : ByteArray) (hs63 : s.size ≤ 9223372036854775807) (w : World) (hS : Syn w) :
    Calls Tryd.prog 5 #[.agg #[.int .u8 (a0.toNat : Int), .int .u8 (a1.toNat : Int), .int .u8 (a2.toNat : Int), .int .u8 (a3.toNat : Int), .int .u8 (a4.toNat : Int), .int .u8 (a5.toNat : Int)], .agg #[.int .u8 (b0.toNat : Int), .int .u8 (b1.toNat : Int), .int .u8 (b2.toNat : Int), .int .u8 (b3.toNat : Int), .int .u8 (b4.toNat : Int), .int .u8 (b5.toNat : Int)], .string s] w fun r w' => r = .returned (.bool true) ∧ Below w.heap.size w w' := by
  have hs0 : (0 : Int) ≤ (s.size : Int) := by omega
  have hs1 : (s.size : Int) ≤ 9223372036854775807 := by omega
  have hnum := of_num a0 a1 a2 a3 a4 a5
  have hptx := ppt_ptx a0 a1 a2 a3 a4 a5 b0 b1 b2 b3 b4 b5
  have hid := andL_idem a0 a1 a2 a3 a4 a5 b0 b1 b2 b3 b4 b5
  have hmk : ∀ w, Calls Tryd.prog 20 #[.agg #[.int .u8 (a0.toNat : Int), .int .u8 (a1.toNat : Int), .int .u8 (a2.toNat : Int), .int .u8 (a3.toNat : Int), .int .u8 (a4.toNat : Int), .int .u8 (a5.toNat : Int)], .agg #[.int .u8 (b0.toNat : Int), .int .u8 (b1.toNat : Int), .int .u8 (b2.toNat : Int), .int .u8 (b3.toNat : Int), .int .u8 (b4.toNat : Int), .int .u8 (b5.toNat : Int)]] w fun r w' => r = .returned (mv (andL [a0, a1, a2, a3, a4, a5] [b0, b1, b2, b3, b4, b5])) ∧ Kept Nil w w' := Masked_yes a0 a1 a2 a3 a4 a5 b0 b1 b2 b3 b4 b5
  obtain ⟨x0, x1, x2, x3, x4, x5, hw⟩ := six (andL [a0, a1, a2, a3, a4, a5] [b0, b1, b2, b3, b4, b5]) rfl
  rw [hw] at hptx hid hmk
  have hpt2 := ppt_ptx x0 x1 x2 x3 x4 x5 b0 b1 b2 b3 b4 b5
  rw [hid] at hpt2
  clear hptx
  have q1 : ∀ w, Calls Tryd.prog 9 #[.agg #[.int .u8 (a0.toNat : Int), .int .u8 (a1.toNat : Int), .int .u8 (a2.toNat : Int), .int .u8 (a3.toNat : Int), .int .u8 (a4.toNat : Int), .int .u8 (a5.toNat : Int)]] w fun r w' => r = .returned (.string ⟨(textL [a0, a1, a2, a3, a4, a5]).toArray⟩) ∧ Kept Nil w w' := Text_yes a0 a1 a2 a3 a4 a5
  have q2 : ∀ w, Calls Tryd.prog 31 #[.string ⟨(textL [a0, a1, a2, a3, a4, a5]).toArray⟩] w fun r w' => r = .returned (.string ⟨(Lib.toUpperA (textL [a0, a1, a2, a3, a4, a5])).toArray⟩) ∧ Kept Nil w w' := fun w => (Tryd.strings_ToUpper_ascii ⟨(textL [a0, a1, a2, a3, a4, a5]).toArray⟩ w (show (17 : Nat) ≤ 140737488355328 by decide) (fun j b hb => (text_ns a0 a1 a2 a3 a4 a5 b (List.mem_of_getElem? (by simpa using hb))).2)).mono fun r w' ⟨h1, h2⟩ => ⟨h1, below_kept h2⟩
  have q3 : ∀ w, Syn w → Calls Tryd.prog 27 #[.string ⟨(textL [a0, a1, a2, a3, a4, a5]).toArray⟩] w fun r w' => r = .returned (.tuple #[.agg #[.int .u8 (a0.toNat : Int), .int .u8 (a1.toNat : Int), .int .u8 (a2.toNat : Int), .int .u8 (a3.toNat : Int), .int .u8 (a4.toNat : Int), .int .u8 (a5.toNat : Int)], .int .i64 0]) ∧ Kept Nil w w' := fun w hS => by
    have h := Parse_any ⟨(textL [a0, a1, a2, a3, a4, a5]).toArray⟩ (show (17 : Nat) ≤ 1000 by decide) w hS
    rw [show (⟨(textL [a0, a1, a2, a3, a4, a5]).toArray⟩ : ByteArray).data.toList = textL [a0, a1, a2, a3, a4, a5] from rfl, prs_text] at h
    exact h
  have q4 : ∀ w, Syn w → Calls Tryd.prog 27 #[.string ⟨(Lib.toUpperA (textL [a0, a1, a2, a3, a4, a5])).toArray⟩] w fun r w' => r = .returned (.tuple #[.agg #[.int .u8 (a0.toNat : Int), .int .u8 (a1.toNat : Int), .int .u8 (a2.toNat : Int), .int .u8 (a3.toNat : Int), .int .u8 (a4.toNat : Int), .int .u8 (a5.toNat : Int)], .int .i64 0]) ∧ Kept Nil w w' := fun w hS => by
    have h := Parse_any ⟨(Lib.toUpperA (textL [a0, a1, a2, a3, a4, a5])).toArray⟩ (show (17 : Nat) ≤ 1000 by decide) w hS
    rw [show (⟨(Lib.toUpperA (textL [a0, a1, a2, a3, a4, a5])).toArray⟩ : ByteArray).data.toList = Lib.toUpperA (textL [a0, a1, a2, a3, a4, a5]) from rfl, prs_upper] at h
    exact h
  have q5 : ∀ w, Calls Tryd.prog 22 #[.agg #[.int .u8 (x0.toNat : Int), .int .u8 (x1.toNat : Int), .int .u8 (x2.toNat : Int), .int .u8 (x3.toNat : Int), .int .u8 (x4.toNat : Int), .int .u8 (x5.toNat : Int), .int .u8 (b0.toNat : Int), .int .u8 (b1.toNat : Int), .int .u8 (b2.toNat : Int), .int .u8 (b3.toNat : Int), .int .u8 (b4.toNat : Int), .int .u8 (b5.toNat : Int)]] w fun r w' => r = .returned (.string ⟨(ptx [x0, x1, x2, x3, x4, x5] [b0, b1, b2, b3, b4, b5]).toArray⟩) ∧ Kept Nil w w' := PText_any x0 x1 x2 x3 x4 x5 b0 b1 b2 b3 b4 b5
  have q6 : ∀ w, Syn w → Calls Tryd.prog 29 #[.string ⟨(ptx [x0, x1, x2, x3, x4, x5] [b0, b1, b2, b3, b4, b5]).toArray⟩] w fun r w' => r = .returned (.tuple #[.agg #[.int .u8 (x0.toNat : Int), .int .u8 (x1.toNat : Int), .int .u8 (x2.toNat : Int), .int .u8 (x3.toNat : Int), .int .u8 (x4.toNat : Int), .int .u8 (x5.toNat : Int), .int .u8 (b0.toNat : Int), .int .u8 (b1.toNat : Int), .int .u8 (b2.toNat : Int), .int .u8 (b3.toNat : Int), .int .u8 (b4.toNat : Int), .int .u8 (b5.toNat : Int)], .int .i64 0]) ∧ Kept Nil w w' := fun w hS => by
    have h := PPat_any ⟨(ptx [x0, x1, x2, x3, x4, x5] [b0, b1, b2, b3, b4, b5]).toArray⟩ (ptx_size x0 x1 x2 x3 x4 x5 b0 b1 b2 b3 b4 b5) w hS
    rw [show (⟨(ptx [x0, x1, x2, x3, x4, x5] [b0, b1, b2, b3, b4, b5]).toArray⟩ : ByteArray).data.toList = ptx [x0, x1, x2, x3, x4, x5] [b0, b1, b2, b3, b4, b5] from rfl, hpt2] at h
    exact h
  have q7 : ∀ w, Calls Tryd.prog 11 #[.agg #[.int .u8 (a0.toNat : Int), .int .u8 (a1.toNat : Int), .int .u8 (a2.toNat : Int), .int .u8 (a3.toNat : Int), .int .u8 (a4.toNat : Int), .int .u8 (a5.toNat : Int)]] w fun r w' => r = .returned (.int .u64 (numL [a0, a1, a2, a3, a4, a5] : Int)) ∧ Kept Nil w w' := fun w => (Number_yes a0 a1 a2 a3 a4 a5 w).mono fun r w' ⟨h1, h2⟩ => ⟨h1, by rw [h2]; exact (Kept.refl Nil w).alloc _⟩
  have q8 : ∀ w, Calls Tryd.prog 13 #[.int .u64 (numL [a0, a1, a2, a3, a4, a5] : Int)] w fun r w' => r = .returned (.agg #[.int .u8 (a0.toNat : Int), .int .u8 (a1.toNat : Int), .int .u8 (a2.toNat : Int), .int .u8 (a3.toNat : Int), .int .u8 (a4.toNat : Int), .int .u8 (a5.toNat : Int)]) ∧ Kept Nil w w' := fun w => by
    have h := Of_yes (numL [a0, a1, a2, a3, a4, a5]) (by have := hnum.2; omega) w
    rw [hnum.1] at h
    exact h
  have q9 : ∀ w, Calls Tryd.prog 20 #[.agg #[.int .u8 (a0.toNat : Int), .int .u8 (a1.toNat : Int), .int .u8 (a2.toNat : Int), .int .u8 (a3.toNat : Int), .int .u8 (a4.toNat : Int), .int .u8 (a5.toNat : Int)], .agg #[.int .u8 (b0.toNat : Int), .int .u8 (b1.toNat : Int), .int .u8 (b2.toNat : Int), .int .u8 (b3.toNat : Int), .int .u8 (b4.toNat : Int), .int .u8 (b5.toNat : Int)]] w fun r w' => r = .returned (.agg #[.int .u8 (x0.toNat : Int), .int .u8 (x1.toNat : Int), .int .u8 (x2.toNat : Int), .int .u8 (x3.toNat : Int), .int .u8 (x4.toNat : Int), .int .u8 (x5.toNat : Int)]) ∧ Kept Nil w w' := fun w => hmk w
  have hsh : ((numL [a0, a1, a2, a3, a4, a5] : Int) / 281474976710656 != 0) = false := by
    have h := hnum.2
    have h2 : (numL [a0, a1, a2, a3, a4, a5] : Int) / 281474976710656 = 0 := by omega
    rw [h2]; rfl
  have hnb : (numL [a0, a1, a2, a3, a4, a5] : Int) < 281474976710656 := by have h := hnum.2; omega
  have hn0 : 0 ≤ (numL [a0, a1, a2, a3, a4, a5] : Int) := by omega
  clear hmk hpt2 hid hnum hw
  generalize (⟨(Lib.toUpperA (textL [a0, a1, a2, a3, a4, a5])).toArray⟩ : ByteArray) = tU at q2 q4
  generalize (⟨(textL [a0, a1, a2, a3, a4, a5]).toArray⟩ : ByteArray) = tA at q1 q2 q3
  generalize (⟨(ptx [x0, x1, x2, x3, x4, x5] [b0, b1, b2, b3, b4, b5]).toArray⟩ : ByteArray) = tP at q5 q6
  generalize (numL [a0, a1, a2, a3, a4, a5] : Int) = nn at q7 q8 hsh hnb hn0
  have e1 : ∀ w, (Op.equalIn 10000 24 (.agg #[.int .u8 (a0.toNat : Int), .int .u8 (a1.toNat : Int), .int .u8 (a2.toNat : Int), .int .u8 (a3.toNat : Int), .int .u8 (a4.toNat : Int), .int .u8 (a5.toNat : Int)]) (.agg #[.int .u8 (a0.toNat : Int), .int .u8 (a1.toNat : Int), .int .u8 (a2.toNat : Int), .int .u8 (a3.toNat : Int), .int .u8 (a4.toNat : Int), .int .u8 (a5.toNat : Int)])).run Tryd.prog w = .ok true w := fun w => by
    have h := meq [a0, a1, a2, a3, a4, a5] [a0, a1, a2, a3, a4, a5] rfl rfl w
    rw [beq_self_eq_true] at h
    exact h
  have e2 : ∀ w, (Op.equalIn 10000 26 (.agg #[.int .u8 (x0.toNat : Int), .int .u8 (x1.toNat : Int), .int .u8 (x2.toNat : Int), .int .u8 (x3.toNat : Int), .int .u8 (x4.toNat : Int), .int .u8 (x5.toNat : Int), .int .u8 (b0.toNat : Int), .int .u8 (b1.toNat : Int), .int .u8 (b2.toNat : Int), .int .u8 (b3.toNat : Int), .int .u8 (b4.toNat : Int), .int .u8 (b5.toNat : Int)]) (.agg #[.int .u8 (x0.toNat : Int), .int .u8 (x1.toNat : Int), .int .u8 (x2.toNat : Int), .int .u8 (x3.toNat : Int), .int .u8 (x4.toNat : Int), .int .u8 (x5.toNat : Int), .int .u8 (b0.toNat : Int), .int .u8 (b1.toNat : Int), .int .u8 (b2.toNat : Int), .int .u8 (b3.toNat : Int), .int .u8 (b4.toNat : Int), .int .u8 (b5.toNat : Int)])).run Tryd.prog w = .ok true w := fun w => peq x0 x1 x2 x3 x4 x5 b0 b1 b2 b3 b4 b5 w
  have HS := Lib.hid hS
  have Q1 := Lib.hid q1
  have Q2 := Lib.hid q2
  have Q3 := Lib.hid q3
  have Q4 := Lib.hid q4
  have Q5 := Lib.hid q5
  have Q6 := Lib.hid q6
  have Q7 := Lib.hid q7
  have Q8 := Lib.hid q8
  have Q9 := Lib.hid q9
  have SH := Lib.hid hsh
  have EE := Lib.hid (And.intro e1 e2)
  clear q1 q2 q3 q4 q5 q6 q7 q8 q9 hS hsh e1 e2
  have TL := Lib.hid (show ∀ t : ByteArray, t = s.extract 0 (min (s.size : Int) 60).toNat → t.size ≤ 60 from fun t ht => by rw [ht, ByteArray.size_extract]; omega)
  go_enter Tryd.func5, Tryd.ntmps5
  go_upto_region 1 with (fail)
  obtain ⟨W0, hW⟩ : ∃ W, W = (w.alloc (.cells #[.int .u8 (a0.toNat : Int), .int .u8 (a1.toNat : Int), .int .u8 (a2.toNat : Int), .int .u8 (a3.toNat : Int), .int .u8 (a4.toNat : Int), .int .u8 (a5.toNat : Int)] 22)).alloc (.cells #[.int .u8 (b0.toNat : Int), .int .u8 (b1.toNat : Int), .int .u8 (b2.toNat : Int), .int .u8 (b3.toNat : Int), .int .u8 (b4.toNat : Int), .int .u8 (b5.toNat : Int)] 22) := ⟨_, rfl⟩
  rw [← hW]
  have H3 : Hid (Blo W0 w.heap.size 22 #[.int .u8 (a0.toNat : Int), .int .u8 (a1.toNat : Int), .int .u8 (a2.toNat : Int), .int .u8 (a3.toNat : Int), .int .u8 (a4.toNat : Int), .int .u8 (a5.toNat : Int)]) := by unfold Hid; rw [hW]; exact (Blo.at_new (by simp)).alloc _
  have H4 : Hid (Blo W0 (w.heap.size + 1) 22 #[.int .u8 (b0.toNat : Int), .int .u8 (b1.toNat : Int), .int .u8 (b2.toNat : Int), .int .u8 (b3.toNat : Int), .int .u8 (b4.toNat : Int), .int .u8 (b5.toNat : Int)]) := by unfold Hid; rw [hW]; exact Blo.at_new (by simp)
  have KW : Hid (Kept Nil w W0) := by unfold Hid; rw [hW]; exact ((Kept.refl Nil w).alloc _).alloc _
  clear hW
  generalize hg3 : w.heap.size = g3 at *
  generalize hg4 : g3 + 1 = g4 at *
  go_cut [7, 8] (fun s7 s8 wx => ∃ g7 g8 : Nat, s7 = .pointer (some ⟨g7, 0, none⟩) ∧ s8 = .pointer (some ⟨g8, 0, none⟩) ∧ Hid (Blo wx g7 24 #[.int .u8 (a0.toNat : Int), .int .u8 (a1.toNat : Int), .int .u8 (a2.toNat : Int), .int .u8 (a3.toNat : Int), .int .u8 (a4.toNat : Int), .int .u8 (a5.toNat : Int)]) ∧ Hid (Blo wx g8 24 #[.int .u8 (b0.toNat : Int), .int .u8 (b1.toNat : Int), .int .u8 (b2.toNat : Int), .int .u8 (b3.toNat : Int), .int .u8 (b4.toNat : Int), .int .u8 (b5.toNat : Int)]) ∧ Hid (Kept Nil W0 wx))
  case first =>
    refine wp_region_own2 (fun _ => #[.int .u8 0, .int .u8 0, .int .u8 0, .int .u8 0, .int .u8 0, .int .u8 0]) 2 (by kernel_rfl) (by kernel_rfl) (by kernel_rfl) ?_
    apply Exists.intro
    refine And.intro ?hq ?ht
    case hq =>
      intro V hV
      have b3 := H3.out.kept hV (fun hf => hf)
      have b4 := H4.out.kept hV (fun hf => hf)
      have ca0 := b3.gcell 0
      have ca1 := b3.gcell 1
      have ca2 := b3.gcell 2
      have ca3 := b3.gcell 3
      have ca4 := b3.gcell 4
      have ca5 := b3.gcell 5
      simp at ca0 ca1 ca2 ca3 ca4 ca5
      have cb0 := b4.gcell 0
      have cb1 := b4.gcell 1
      have cb2 := b4.gcell 2
      have cb3 := b4.gcell 3
      have cb4 := b4.gcell 4
      have cb5 := b4.gcell 5
      simp at cb0 cb1 cb2 cb3 cb4 cb5
      clear b3 b4
      dsimp only [List.take]
      repeat (go_big_quiet_step (fail))
      exact wpQuiet_nil rfl
    case ht =>
      intro vs
      dsimp only [List.drop]
      refine sLex_alloc 24 rfl rfl (fun _ _ => by kernel_rfl) ?_
      intro g7 hg7 hL7
      refine sLex_alloc 24 rfl rfl (fun _ _ => by kernel_rfl) ?_
      intro g8 hg8 hL8
      have ne1 := upd_new hL8
      refine sLex_store 24 (.tmp 7) (.tmp 22) rfl rfl rfl g7 #[.int .u8 0, .int .u8 0, .int .u8 0, .int .u8 0, .int .u8 0, .int .u8 0] #[.int .u8 (a0.toNat : Int), .int .u8 (a1.toNat : Int), .int .u8 (a2.toNat : Int), .int .u8 (a3.toNat : Int), .int .u8 (a4.toNat : Int), .int .u8 (a5.toNat : Int)] (by rfl) (by simp [upd, ne1.symm]) (by rfl) rfl (by kernel_rfl) (by simp [Value.oneCell']) ?_
      refine sLex_store 24 (.tmp 8) (.tmp 23) rfl rfl rfl g8 #[.int .u8 0, .int .u8 0, .int .u8 0, .int .u8 0, .int .u8 0, .int .u8 0] #[.int .u8 (b0.toNat : Int), .int .u8 (b1.toNat : Int), .int .u8 (b2.toNat : Int), .int .u8 (b3.toNat : Int), .int .u8 (b4.toNat : Int), .int .u8 (b5.toNat : Int)] (by rfl) (by simp [upd, ne1]) (by rfl) rfl (by kernel_rfl) (by simp [Value.oneCell']) ?_
      intro w' hh
      have r7 := (hh.own g7 true #[.int .u8 (a0.toNat : Int), .int .u8 (a1.toNat : Int), .int .u8 (a2.toNat : Int), .int .u8 (a3.toNat : Int), .int .u8 (a4.toNat : Int), .int .u8 (a5.toNat : Int)] 24 (by simp [upd, ne1.symm])).2
      have r8 := (hh.own g8 true #[.int .u8 (b0.toNat : Int), .int .u8 (b1.toNat : Int), .int .u8 (b2.toNat : Int), .int .u8 (b3.toNat : Int), .int .u8 (b4.toNat : Int), .int .u8 (b5.toNat : Int)] 24 (by simp [upd, ne1])).2
      have hkk := hh.kept
      go_wp2_with fail
      go_meet
      exact ⟨g7, g8, rfl, rfl, r7, r8, hkk⟩
  case rest =>
    obtain ⟨g7, g8, rfl, rfl, H7, H8, HKC⟩ := hcut
    have KW := Lib.hid (KW.out.then HKC.out)
    clear HKC H3 H4
    have c0 := H7.out.cell 0
    have c1 := H7.out.cell 1
    have c2 := H7.out.cell 2
    have c3 := H7.out.cell 3
    have c4 := H7.out.cell 4
    have c5 := H7.out.cell 5
    simp at c0 c1 c2 c3 c4 c5
    go_wp2_with fail
    refine (Q1.out _).mono ?_
    rintro r w1 ⟨rfl, hk1⟩
    have K1 := Lib.hid (KW.out.then hk1)
    have KC := Lib.hid hk1
    clear hk1 c0 c1 c2 c3 c4 c5
    go_wp2_with fail
    refine (Q3.out _ (HS.out.kept K1.out)).mono ?_
    rintro r w2 ⟨rfl, hk2⟩
    have KC2 := Lib.hid ((KC.out.then hk2).alloc (.cells #[.int .u8 (a0.toNat : Int), .int .u8 (a1.toNat : Int), .int .u8 (a2.toNat : Int), .int .u8 (a3.toNat : Int), .int .u8 (a4.toNat : Int), .int .u8 (a5.toNat : Int)] 24))
    have H9 := Lib.hid (Blo.new w2 24 #[.int .u8 (a0.toNat : Int), .int .u8 (a1.toNat : Int), .int .u8 (a2.toNat : Int), .int .u8 (a3.toNat : Int), .int .u8 (a4.toNat : Int), .int .u8 (a5.toNat : Int)])
    have K2 := Lib.hid (KW.out.then KC2.out)
    have h7 := H7.out.kept KC2.out (fun hf => hf)
    have H72 := Lib.hid h7
    have H82 := Lib.hid (H8.out.kept KC2.out (fun hf => hf))
    clear hk2
    have c0 := h7.cell 0
    have c1 := h7.cell 1
    have c2 := h7.cell 2
    have c3 := h7.cell 3
    have c4 := h7.cell 4
    have c5 := h7.cell 5
    simp at c0 c1 c2 c3 c4 c5
    clear h7
    go_wp2_with fail
    refine (Q1.out _).mono ?_
    rintro r w3 ⟨rfl, hk3⟩
    have K3 := Lib.hid (K2.out.then hk3)
    clear c0 c1 c2 c3 c4 c5
    go_wp2_with fail
    refine (Q2.out _).mono ?_
    rintro r w4 ⟨rfl, hk4⟩
    have K4 := Lib.hid (K3.out.then hk4)
    go_wp2_with fail
    refine (Q4.out _ (HS.out.kept K4.out)).mono ?_
    rintro r w5 ⟨rfl, hk5⟩
    have KC5 := Lib.hid (((hk3.then hk4).then hk5).alloc (.cells #[.int .u8 (a0.toNat : Int), .int .u8 (a1.toNat : Int), .int .u8 (a2.toNat : Int), .int .u8 (a3.toNat : Int), .int .u8 (a4.toNat : Int), .int .u8 (a5.toNat : Int)] 24))
    have H11 := Lib.hid (Blo.new w5 24 #[.int .u8 (a0.toNat : Int), .int .u8 (a1.toNat : Int), .int .u8 (a2.toNat : Int), .int .u8 (a3.toNat : Int), .int .u8 (a4.toNat : Int), .int .u8 (a5.toNat : Int)])
    have K5 := Lib.hid (K2.out.then KC5.out)
    have H75 := Lib.hid (H72.out.kept KC5.out (fun hf => hf))
    have H85 := Lib.hid (H82.out.kept KC5.out (fun hf => hf))
    have H95 := Lib.hid (H9.out.kept KC5.out (fun hf => hf))
    clear hk3 hk4 hk5 H72 H82 H9 K1 K3 K4 KC KC2 KC5 K2 KW H7 H8
    go_upto_region 4 with (fail)
    generalize w2.heap.size = g9 at *
    refine wp_name (fun W => Blo W g7 24 #[.int .u8 (a0.toNat : Int), .int .u8 (a1.toNat : Int), .int .u8 (a2.toNat : Int), .int .u8 (a3.toNat : Int), .int .u8 (a4.toNat : Int), .int .u8 (a5.toNat : Int)] ∧ Blo W g8 24 #[.int .u8 (b0.toNat : Int), .int .u8 (b1.toNat : Int), .int .u8 (b2.toNat : Int), .int .u8 (b3.toNat : Int), .int .u8 (b4.toNat : Int), .int .u8 (b5.toNat : Int)] ∧ Blo W g9 24 #[.int .u8 (a0.toNat : Int), .int .u8 (a1.toNat : Int), .int .u8 (a2.toNat : Int), .int .u8 (a3.toNat : Int), .int .u8 (a4.toNat : Int), .int .u8 (a5.toNat : Int)] ∧ Blo W w5.heap.size 24 #[.int .u8 (a0.toNat : Int), .int .u8 (a1.toNat : Int), .int .u8 (a2.toNat : Int), .int .u8 (a3.toNat : Int), .int .u8 (a4.toNat : Int), .int .u8 (a5.toNat : Int)] ∧ Kept Nil w W) ⟨H75.out, H85.out, H95.out, H11.out, K5.out⟩ ?_
    generalize w5.heap.size = g11 at *
    clear H75 H85 H95 H11 K5
    rintro W4 ⟨h7, h8, h9, h11, hk⟩
    have H7 := Lib.hid h7
    have H8 := Lib.hid h8
    have H9 := Lib.hid h9
    have H11 := Lib.hid h11
    have KW := Lib.hid hk
    clear h7 h8 h9 h11 hk
    go_cut [13] (fun s13 wx => ∃ g13 : Nat, s13 = .pointer (some ⟨g13, 0, none⟩) ∧ Hid (Blo wx g13 26 #[.int .u8 (x0.toNat : Int), .int .u8 (x1.toNat : Int), .int .u8 (x2.toNat : Int), .int .u8 (x3.toNat : Int), .int .u8 (x4.toNat : Int), .int .u8 (x5.toNat : Int), .int .u8 (b0.toNat : Int), .int .u8 (b1.toNat : Int), .int .u8 (b2.toNat : Int), .int .u8 (b3.toNat : Int), .int .u8 (b4.toNat : Int), .int .u8 (b5.toNat : Int)]) ∧ Hid (Kept Nil W4 wx))
    case first =>
      refine wp_region_own2 (fun _ => #[.int .u8 0, .int .u8 0, .int .u8 0, .int .u8 0, .int .u8 0, .int .u8 0, .int .u8 0, .int .u8 0, .int .u8 0, .int .u8 0, .int .u8 0, .int .u8 0]) 5 (by kernel_rfl) (by kernel_rfl) (by kernel_rfl) ?_
      apply Exists.intro
      refine And.intro ?hq4 ?ht4
      case hq4 =>
        intro V hV
        have b7 := H7.out.kept hV (fun hf => hf)
        have b8 := H8.out.kept hV (fun hf => hf)
        have ca0 := b7.gcell 0
        have ca1 := b7.gcell 1
        have ca2 := b7.gcell 2
        have ca3 := b7.gcell 3
        have ca4 := b7.gcell 4
        have ca5 := b7.gcell 5
        simp at ca0 ca1 ca2 ca3 ca4 ca5
        have cb0 := b8.gcell 0
        have cb1 := b8.gcell 1
        have cb2 := b8.gcell 2
        have cb3 := b8.gcell 3
        have cb4 := b8.gcell 4
        have cb5 := b8.gcell 5
        simp at cb0 cb1 cb2 cb3 cb4 cb5
        clear b7 b8
        dsimp only [List.take]
        repeat (go_big_quiet_step (with_reducible exact quietK (Q9.out _)))
        exact wpQuiet_nil rfl
      case ht4 =>
        intro vs
        dsimp only [List.drop]
        refine sLex_alloc 26 rfl rfl (fun _ _ => by kernel_rfl) ?_
        intro g13 hg13 hL13
        refine sLex_store 26 (.tmp 13) (.tmp 41) rfl rfl rfl g13 #[.int .u8 0, .int .u8 0, .int .u8 0, .int .u8 0, .int .u8 0, .int .u8 0, .int .u8 0, .int .u8 0, .int .u8 0, .int .u8 0, .int .u8 0, .int .u8 0] #[.int .u8 (x0.toNat : Int), .int .u8 (x1.toNat : Int), .int .u8 (x2.toNat : Int), .int .u8 (x3.toNat : Int), .int .u8 (x4.toNat : Int), .int .u8 (x5.toNat : Int), .int .u8 (b0.toNat : Int), .int .u8 (b1.toNat : Int), .int .u8 (b2.toNat : Int), .int .u8 (b3.toNat : Int), .int .u8 (b4.toNat : Int), .int .u8 (b5.toNat : Int)] (by rfl) (by simp [upd]) (by rfl) rfl (by kernel_rfl) (by simp [Value.oneCell']) ?_
        intro w' hh
        have r13 := (hh.own g13 true #[.int .u8 (x0.toNat : Int), .int .u8 (x1.toNat : Int), .int .u8 (x2.toNat : Int), .int .u8 (x3.toNat : Int), .int .u8 (x4.toNat : Int), .int .u8 (x5.toNat : Int), .int .u8 (b0.toNat : Int), .int .u8 (b1.toNat : Int), .int .u8 (b2.toNat : Int), .int .u8 (b3.toNat : Int), .int .u8 (b4.toNat : Int), .int .u8 (b5.toNat : Int)] 26 (by simp [upd])).2
        have hkk := hh.kept
        go_wp2_with fail
        go_meet
        exact ⟨g13, rfl, r13, hkk⟩
    case rest =>
      obtain ⟨g13, rfl, H13, HKC⟩ := hcut
      have KW := Lib.hid (KW.out.then HKC.out)
      have H7 := Lib.hid (H7.out.kept HKC.out (fun hf => hf))
      have H9 := Lib.hid (H9.out.kept HKC.out (fun hf => hf))
      have H11 := Lib.hid (H11.out.kept HKC.out (fun hf => hf))
      clear HKC H8
      have c0 := H13.out.cell 0
      have c1 := H13.out.cell 1
      have c2 := H13.out.cell 2
      have c3 := H13.out.cell 3
      have c4 := H13.out.cell 4
      have c5 := H13.out.cell 5
      have c6 := H13.out.cell 6
      have c7 := H13.out.cell 7
      have c8 := H13.out.cell 8
      have c9 := H13.out.cell 9
      have c10 := H13.out.cell 10
      have c11 := H13.out.cell 11
      simp at c0 c1 c2 c3 c4 c5 c6 c7 c8 c9 c10 c11
      go_wp2_with fail
      refine (Q5.out _).mono ?_
      rintro r w1 ⟨rfl, hk1⟩
      have K1 := Lib.hid (KW.out.then hk1)
      clear c0 c1 c2 c3 c4 c5 c6 c7 c8 c9 c10 c11
      go_wp2_with fail
      refine (Q6.out _ (HS.out.kept K1.out)).mono ?_
      rintro r w2 ⟨rfl, hk2⟩
      have KC := Lib.hid ((hk1.then hk2).alloc (.cells #[.int .u8 (x0.toNat : Int), .int .u8 (x1.toNat : Int), .int .u8 (x2.toNat : Int), .int .u8 (x3.toNat : Int), .int .u8 (x4.toNat : Int), .int .u8 (x5.toNat : Int), .int .u8 (b0.toNat : Int), .int .u8 (b1.toNat : Int), .int .u8 (b2.toNat : Int), .int .u8 (b3.toNat : Int), .int .u8 (b4.toNat : Int), .int .u8 (b5.toNat : Int)] 26))
      have H14 := Lib.hid (Blo.new w2 26 #[.int .u8 (x0.toNat : Int), .int .u8 (x1.toNat : Int), .int .u8 (x2.toNat : Int), .int .u8 (x3.toNat : Int), .int .u8 (x4.toNat : Int), .int .u8 (x5.toNat : Int), .int .u8 (b0.toNat : Int), .int .u8 (b1.toNat : Int), .int .u8 (b2.toNat : Int), .int .u8 (b3.toNat : Int), .int .u8 (b4.toNat : Int), .int .u8 (b5.toNat : Int)])
      have K2 := Lib.hid (KW.out.then KC.out)
      have H7 := Lib.hid (H7.out.kept KC.out (fun hf => hf))
      have H9 := Lib.hid (H9.out.kept KC.out (fun hf => hf))
      have H11 := Lib.hid (H11.out.kept KC.out (fun hf => hf))
      have H13 := Lib.hid (H13.out.kept KC.out (fun hf => hf))
      clear hk1 hk2 K1
      go_upto_region 6 with (fail)
      refine wp_name (fun W => Blo W g7 24 #[.int .u8 (a0.toNat : Int), .int .u8 (a1.toNat : Int), .int .u8 (a2.toNat : Int), .int .u8 (a3.toNat : Int), .int .u8 (a4.toNat : Int), .int .u8 (a5.toNat : Int)] ∧ Blo W g9 24 #[.int .u8 (a0.toNat : Int), .int .u8 (a1.toNat : Int), .int .u8 (a2.toNat : Int), .int .u8 (a3.toNat : Int), .int .u8 (a4.toNat : Int), .int .u8 (a5.toNat : Int)] ∧ Blo W g11 24 #[.int .u8 (a0.toNat : Int), .int .u8 (a1.toNat : Int), .int .u8 (a2.toNat : Int), .int .u8 (a3.toNat : Int), .int .u8 (a4.toNat : Int), .int .u8 (a5.toNat : Int)] ∧ Blo W g13 26 #[.int .u8 (x0.toNat : Int), .int .u8 (x1.toNat : Int), .int .u8 (x2.toNat : Int), .int .u8 (x3.toNat : Int), .int .u8 (x4.toNat : Int), .int .u8 (x5.toNat : Int), .int .u8 (b0.toNat : Int), .int .u8 (b1.toNat : Int), .int .u8 (b2.toNat : Int), .int .u8 (b3.toNat : Int), .int .u8 (b4.toNat : Int), .int .u8 (b5.toNat : Int)] ∧ Blo W w2.heap.size 26 #[.int .u8 (x0.toNat : Int), .int .u8 (x1.toNat : Int), .int .u8 (x2.toNat : Int), .int .u8 (x3.toNat : Int), .int .u8 (x4.toNat : Int), .int .u8 (x5.toNat : Int), .int .u8 (b0.toNat : Int), .int .u8 (b1.toNat : Int), .int .u8 (b2.toNat : Int), .int .u8 (b3.toNat : Int), .int .u8 (b4.toNat : Int), .int .u8 (b5.toNat : Int)] ∧ Kept Nil w W) ⟨H7.out, H9.out, H11.out, H13.out, H14.out, K2.out⟩ ?_
      generalize w2.heap.size = g14 at *
      clear H7 H9 H11 H13 H14 K2 KC KW
      rintro W6 ⟨h7, h9, h11, h13, h14, hk⟩
      have KW := Lib.hid hk
      clear hk
      refine wp_region_quiet_below (by kernel_rfl) (by kernel_rfl) ?_
      have e1 := EE.out.1
      have e2 := EE.out.2
      have hsh := SH.out
      have ca0 := h7.gcell 0
      have ca1 := h7.gcell 1
      have ca2 := h7.gcell 2
      have ca3 := h7.gcell 3
      have ca4 := h7.gcell 4
      have ca5 := h7.gcell 5
      simp at ca0 ca1 ca2 ca3 ca4 ca5
      have cb0 := h9.gcell 0
      have cb1 := h9.gcell 1
      have cb2 := h9.gcell 2
      have cb3 := h9.gcell 3
      have cb4 := h9.gcell 4
      have cb5 := h9.gcell 5
      simp at cb0 cb1 cb2 cb3 cb4 cb5
      have cc0 := h11.gcell 0
      have cc1 := h11.gcell 1
      have cc2 := h11.gcell 2
      have cc3 := h11.gcell 3
      have cc4 := h11.gcell 4
      have cc5 := h11.gcell 5
      simp at cc0 cc1 cc2 cc3 cc4 cc5
      have cd0 := h13.gcell 0
      have cd1 := h13.gcell 1
      have cd2 := h13.gcell 2
      have cd3 := h13.gcell 3
      have cd4 := h13.gcell 4
      have cd5 := h13.gcell 5
      have cd6 := h13.gcell 6
      have cd7 := h13.gcell 7
      have cd8 := h13.gcell 8
      have cd9 := h13.gcell 9
      have cd10 := h13.gcell 10
      have cd11 := h13.gcell 11
      simp at cd0 cd1 cd2 cd3 cd4 cd5 cd6 cd7 cd8 cd9 cd10 cd11
      have ce0 := h14.gcell 0
      have ce1 := h14.gcell 1
      have ce2 := h14.gcell 2
      have ce3 := h14.gcell 3
      have ce4 := h14.gcell 4
      have ce5 := h14.gcell 5
      have ce6 := h14.gcell 6
      have ce7 := h14.gcell 7
      have ce8 := h14.gcell 8
      have ce9 := h14.gcell 9
      have ce10 := h14.gcell 10
      have ce11 := h14.gcell 11
      simp at ce0 ce1 ce2 ce3 ce4 ce5 ce6 ce7 ce8 ce9 ce10 ce11
      repeat (go_big_quiet_step (first | (with_reducible exact quietK (Q7.out _)) | (with_reducible exact quietK (Q8.out _))))
      refine wpQuiet_nil ?_
      rintro wn ⟨nq, hw⟩
      have hkn : Kept Nil W6 wn := by rw [hw]; exact kept_grown _ _
      have KN := Lib.hid (KW.out.then hkn)
      clear hw hkn ca0 ca1 ca2 ca3 ca4 ca5 cb0 cb1 cb2 cb3 cb4 cb5 cc0 cc1 cc2 cc3 cc4 cc5 cd0 cd1 cd2 cd3 cd4 cd5 cd6 cd7 cd8 cd9 cd10 cd11 ce0 ce1 ce2 ce3 ce4 ce5 ce6 ce7 ce8 ce9 ce10 ce11 h7 h9 h11 h13 h14 e1 e2 hsh KW
      have HL60 := TL.out _ rfl
      obtain ⟨tt, htt⟩ : ∃ t, t = s.extract 0 (min (s.size : Int) 60).toNat := ⟨_, rfl⟩
      rw [← htt] at HL60
      have hpl := prs_lower tt.data.toList
      have hpz := Parse_any tt (by omega)
      have hpp := PPat_any tt (by omega)
      have PZ := Lib.hid hpz
      have PP := Lib.hid hpp
      have PL := Lib.hid hpl
      have L60 := Lib.hid HL60
      have TT := Lib.hid htt
      clear HL60 htt hpz hpp hpl TL
      go_upto_region 9 with (fail)
      rw [show s.extract 0 (min (s.size : Int) 60).toNat = tt from TT.out.symm]
      clear TT
      rcases hz : prs tt.data.toList with _ | z
      · have pz : ∀ w, Syn w → Calls Tryd.prog 27 #[.string tt] w fun r w' => r = .returned (.tuple #[.agg #[.int .u8 0, .int .u8 0, .int .u8 0, .int .u8 0, .int .u8 0, .int .u8 0], .int .i64 5]) ∧ Kept Nil w w' := fun w hS => by
          have h := PZ.out w hS
          rw [hz] at h
          exact h
        have ez : ∀ w, (Op.equalIn 10000 24 (.agg #[.int .u8 0, .int .u8 0, .int .u8 0, .int .u8 0, .int .u8 0, .int .u8 0]) (.agg #[.int .u8 0, .int .u8 0, .int .u8 0, .int .u8 0, .int .u8 0, .int .u8 0])).run Tryd.prog w = .ok true w := fun w => by
          have h := meq [0, 0, 0, 0, 0, 0] [0, 0, 0, 0, 0, 0] rfl rfl w
          rw [beq_self_eq_true] at h
          exact h
        have PZ2 := Lib.hid pz
        have EZ := Lib.hid ez
        clear pz ez hz PZ PL
        go_wp2_with fail
        refine (PZ2.out _ (HS.out.kept KN.out)).mono ?_
        rintro r v1 ⟨rfl, hk1⟩
        have KT := Lib.hid ((KN.out.then hk1).alloc (.cells #[.int .u8 0, .int .u8 0, .int .u8 0, .int .u8 0, .int .u8 0, .int .u8 0] 24))
        clear hk1
        have ez := EZ.out
        go_upto_region 12 with (fail)
        clear ez
        refine wp_name (fun W => Kept Nil w W) KT.out ?_
        clear KT
        rintro Wt hkt
        have KT := Lib.hid hkt
        clear hkt
        rcases ppt_form tt.data.toList with ⟨er, he, h0⟩ | ⟨p0, p1, p2, p3, p4, p5, y0, y1, y2, y3, y4, y5, he, hand⟩
        · have pp : ∀ w, Syn w → Calls Tryd.prog 29 #[.string tt] w fun r w' => r = .returned (.tuple #[.agg #[.int .u8 0, .int .u8 0, .int .u8 0, .int .u8 0, .int .u8 0, .int .u8 0, .int .u8 0, .int .u8 0, .int .u8 0, .int .u8 0, .int .u8 0, .int .u8 0], .int .i64 (er : Int)]) ∧ Kept Nil w w' := fun w hS => by
            have h := PP.out w hS
            rw [he] at h
            exact h
          have ez : ∀ w, (Op.equalIn 10000 26 (.agg #[.int .u8 0, .int .u8 0, .int .u8 0, .int .u8 0, .int .u8 0, .int .u8 0, .int .u8 0, .int .u8 0, .int .u8 0, .int .u8 0, .int .u8 0, .int .u8 0]) (.agg #[.int .u8 0, .int .u8 0, .int .u8 0, .int .u8 0, .int .u8 0, .int .u8 0, .int .u8 0, .int .u8 0, .int .u8 0, .int .u8 0, .int .u8 0, .int .u8 0])).run Tryd.prog w = .ok true w := fun w => peq 0 0 0 0 0 0 0 0 0 0 0 0 w
          have hne : ((er : Int) != 0) = true := by simp; omega
          have PP2 := Lib.hid pp
          have EZ2 := Lib.hid ez
          clear pp ez he h0 PP
          go_wp2_with fail
          refine (PP2.out _ (HS.out.kept KT.out)).mono ?_
          rintro r v4 ⟨rfl, hk4⟩
          have KT := Lib.hid ((KT.out.then hk4).alloc (.cells #[.int .u8 0, .int .u8 0, .int .u8 0, .int .u8 0, .int .u8 0, .int .u8 0, .int .u8 0, .int .u8 0, .int .u8 0, .int .u8 0, .int .u8 0, .int .u8 0] 26))
          clear hk4
          have ez := EZ2.out
          go_wp2_with fail
          refine (tells_yes _).mono ?_
          rintro r v5 ⟨rfl, hk5⟩
          have KT := Lib.hid (KT.out.then hk5)
          clear hk5 ez
          go_wp2
          go_ret
          exact ⟨rfl, KT.out.below (Nat.le_refl _) (fun _ hf => hf.elim)⟩
        · have pp : ∀ w, Syn w → Calls Tryd.prog 29 #[.string tt] w fun r w' => r = .returned (.tuple #[.agg #[.int .u8 (p0.toNat : Int), .int .u8 (p1.toNat : Int), .int .u8 (p2.toNat : Int), .int .u8 (p3.toNat : Int), .int .u8 (p4.toNat : Int), .int .u8 (p5.toNat : Int), .int .u8 (y0.toNat : Int), .int .u8 (y1.toNat : Int), .int .u8 (y2.toNat : Int), .int .u8 (y3.toNat : Int), .int .u8 (y4.toNat : Int), .int .u8 (y5.toNat : Int)], .int .i64 0]) ∧ Kept Nil w w' := fun w hS => by
            have h := PP.out w hS
            rw [he] at h
            exact h
          have pt : ∀ w, Calls Tryd.prog 22 #[.agg #[.int .u8 (p0.toNat : Int), .int .u8 (p1.toNat : Int), .int .u8 (p2.toNat : Int), .int .u8 (p3.toNat : Int), .int .u8 (p4.toNat : Int), .int .u8 (p5.toNat : Int), .int .u8 (y0.toNat : Int), .int .u8 (y1.toNat : Int), .int .u8 (y2.toNat : Int), .int .u8 (y3.toNat : Int), .int .u8 (y4.toNat : Int), .int .u8 (y5.toNat : Int)]] w fun r w' => r = .returned (.string ⟨(ptx [p0, p1, p2, p3, p4, p5] [y0, y1, y2, y3, y4, y5]).toArray⟩) ∧ Kept Nil w w' := PText_any p0 p1 p2 p3 p4 p5 y0 y1 y2 y3 y4 y5
          have pp2 : ∀ w, Syn w → Calls Tryd.prog 29 #[.string ⟨(ptx [p0, p1, p2, p3, p4, p5] [y0, y1, y2, y3, y4, y5]).toArray⟩] w fun r w' => r = .returned (.tuple #[.agg #[.int .u8 (p0.toNat : Int), .int .u8 (p1.toNat : Int), .int .u8 (p2.toNat : Int), .int .u8 (p3.toNat : Int), .int .u8 (p4.toNat : Int), .int .u8 (p5.toNat : Int), .int .u8 (y0.toNat : Int), .int .u8 (y1.toNat : Int), .int .u8 (y2.toNat : Int), .int .u8 (y3.toNat : Int), .int .u8 (y4.toNat : Int), .int .u8 (y5.toNat : Int)], .int .i64 0]) ∧ Kept Nil w w' := fun w hS => by
            have h := PPat_any ⟨(ptx [p0, p1, p2, p3, p4, p5] [y0, y1, y2, y3, y4, y5]).toArray⟩ (ptx_size p0 p1 p2 p3 p4 p5 y0 y1 y2 y3 y4 y5) w hS
            rw [show (⟨(ptx [p0, p1, p2, p3, p4, p5] [y0, y1, y2, y3, y4, y5]).toArray⟩ : ByteArray).data.toList = ptx [p0, p1, p2, p3, p4, p5] [y0, y1, y2, y3, y4, y5] from rfl, ppt_ptx, hand] at h
            exact h
          have mk : ∀ w, Calls Tryd.prog 20 #[.agg #[.int .u8 (p0.toNat : Int), .int .u8 (p1.toNat : Int), .int .u8 (p2.toNat : Int), .int .u8 (p3.toNat : Int), .int .u8 (p4.toNat : Int), .int .u8 (p5.toNat : Int)], .agg #[.int .u8 (y0.toNat : Int), .int .u8 (y1.toNat : Int), .int .u8 (y2.toNat : Int), .int .u8 (y3.toNat : Int), .int .u8 (y4.toNat : Int), .int .u8 (y5.toNat : Int)]] w fun r w' => r = .returned (.agg #[.int .u8 (p0.toNat : Int), .int .u8 (p1.toNat : Int), .int .u8 (p2.toNat : Int), .int .u8 (p3.toNat : Int), .int .u8 (p4.toNat : Int), .int .u8 (p5.toNat : Int)]) ∧ Kept Nil w w' := fun w => by
            have h : Calls Tryd.prog 20 #[.agg #[.int .u8 (p0.toNat : Int), .int .u8 (p1.toNat : Int), .int .u8 (p2.toNat : Int), .int .u8 (p3.toNat : Int), .int .u8 (p4.toNat : Int), .int .u8 (p5.toNat : Int)], .agg #[.int .u8 (y0.toNat : Int), .int .u8 (y1.toNat : Int), .int .u8 (y2.toNat : Int), .int .u8 (y3.toNat : Int), .int .u8 (y4.toNat : Int), .int .u8 (y5.toNat : Int)]] w fun r w' => r = .returned (mv (andL [p0, p1, p2, p3, p4, p5] [y0, y1, y2, y3, y4, y5])) ∧ Kept Nil w w' := Masked_yes p0 p1 p2 p3 p4 p5 y0 y1 y2 y3 y4 y5 w
            rw [hand] at h
            exact h
          generalize (⟨(ptx [p0, p1, p2, p3, p4, p5] [y0, y1, y2, y3, y4, y5]).toArray⟩ : ByteArray) = tq at pt pp2
          have e3 : ∀ w, (Op.equalIn 10000 24 (.agg #[.int .u8 (p0.toNat : Int), .int .u8 (p1.toNat : Int), .int .u8 (p2.toNat : Int), .int .u8 (p3.toNat : Int), .int .u8 (p4.toNat : Int), .int .u8 (p5.toNat : Int)]) (.agg #[.int .u8 (p0.toNat : Int), .int .u8 (p1.toNat : Int), .int .u8 (p2.toNat : Int), .int .u8 (p3.toNat : Int), .int .u8 (p4.toNat : Int), .int .u8 (p5.toNat : Int)])).run Tryd.prog w = .ok true w := fun w => by
            have h := meq [p0, p1, p2, p3, p4, p5] [p0, p1, p2, p3, p4, p5] rfl rfl w
            rw [beq_self_eq_true] at h
            exact h
          have e4 : ∀ w, (Op.equalIn 10000 26 (.agg #[.int .u8 (p0.toNat : Int), .int .u8 (p1.toNat : Int), .int .u8 (p2.toNat : Int), .int .u8 (p3.toNat : Int), .int .u8 (p4.toNat : Int), .int .u8 (p5.toNat : Int), .int .u8 (y0.toNat : Int), .int .u8 (y1.toNat : Int), .int .u8 (y2.toNat : Int), .int .u8 (y3.toNat : Int), .int .u8 (y4.toNat : Int), .int .u8 (y5.toNat : Int)]) (.agg #[.int .u8 (p0.toNat : Int), .int .u8 (p1.toNat : Int), .int .u8 (p2.toNat : Int), .int .u8 (p3.toNat : Int), .int .u8 (p4.toNat : Int), .int .u8 (p5.toNat : Int), .int .u8 (y0.toNat : Int), .int .u8 (y1.toNat : Int), .int .u8 (y2.toNat : Int), .int .u8 (y3.toNat : Int), .int .u8 (y4.toNat : Int), .int .u8 (y5.toNat : Int)])).run Tryd.prog w = .ok true w := fun w => peq p0 p1 p2 p3 p4 p5 y0 y1 y2 y3 y4 y5 w
          have E34 := Lib.hid (And.intro e3 e4)
          have PP2 := Lib.hid pp
          have PP3 := Lib.hid pp2
          have PT := Lib.hid pt
          have MK := Lib.hid mk
          have TE := Lib.hid (fun w => tells_yes w)
          clear pp pp2 pt mk e3 e4 he hand PP
          go_wp2_with fail
          refine (PP2.out _ (HS.out.kept KT.out)).mono ?_
          rintro r v4 ⟨rfl, hk4⟩
          have KT := Lib.hid ((KT.out.then hk4).alloc (.cells #[.int .u8 (p0.toNat : Int), .int .u8 (p1.toNat : Int), .int .u8 (p2.toNat : Int), .int .u8 (p3.toNat : Int), .int .u8 (p4.toNat : Int), .int .u8 (p5.toNat : Int), .int .u8 (y0.toNat : Int), .int .u8 (y1.toNat : Int), .int .u8 (y2.toNat : Int), .int .u8 (y3.toNat : Int), .int .u8 (y4.toNat : Int), .int .u8 (y5.toNat : Int)] 26))
          have H18 := Lib.hid (Blo.new v4 26 #[.int .u8 (p0.toNat : Int), .int .u8 (p1.toNat : Int), .int .u8 (p2.toNat : Int), .int .u8 (p3.toNat : Int), .int .u8 (p4.toNat : Int), .int .u8 (p5.toNat : Int), .int .u8 (y0.toNat : Int), .int .u8 (y1.toNat : Int), .int .u8 (y2.toNat : Int), .int .u8 (y3.toNat : Int), .int .u8 (y4.toNat : Int), .int .u8 (y5.toNat : Int)])
          clear hk4
          go_wp2_with fail
          refine (PT.out _).mono ?_
          rintro r v5 ⟨rfl, hk5⟩
          have K5 := Lib.hid (KT.out.then hk5)
          go_wp2_with fail
          refine (PP3.out _ (HS.out.kept K5.out)).mono ?_
          rintro r v6 ⟨rfl, hk6⟩
          have H18 := Lib.hid ((H18.out.kept (hk5.then hk6) (fun hf => hf)).alloc (.cells #[.int .u8 (p0.toNat : Int), .int .u8 (p1.toNat : Int), .int .u8 (p2.toNat : Int), .int .u8 (p3.toNat : Int), .int .u8 (p4.toNat : Int), .int .u8 (p5.toNat : Int), .int .u8 (y0.toNat : Int), .int .u8 (y1.toNat : Int), .int .u8 (y2.toNat : Int), .int .u8 (y3.toNat : Int), .int .u8 (y4.toNat : Int), .int .u8 (y5.toNat : Int)] 26))
          have H20 := Lib.hid (Blo.new v6 26 #[.int .u8 (p0.toNat : Int), .int .u8 (p1.toNat : Int), .int .u8 (p2.toNat : Int), .int .u8 (p3.toNat : Int), .int .u8 (p4.toNat : Int), .int .u8 (p5.toNat : Int), .int .u8 (y0.toNat : Int), .int .u8 (y1.toNat : Int), .int .u8 (y2.toNat : Int), .int .u8 (y3.toNat : Int), .int .u8 (y4.toNat : Int), .int .u8 (y5.toNat : Int)])
          have KT := Lib.hid ((K5.out.then hk6).alloc (.cells #[.int .u8 (p0.toNat : Int), .int .u8 (p1.toNat : Int), .int .u8 (p2.toNat : Int), .int .u8 (p3.toNat : Int), .int .u8 (p4.toNat : Int), .int .u8 (p5.toNat : Int), .int .u8 (y0.toNat : Int), .int .u8 (y1.toNat : Int), .int .u8 (y2.toNat : Int), .int .u8 (y3.toNat : Int), .int .u8 (y4.toNat : Int), .int .u8 (y5.toNat : Int)] 26))
          clear hk5 hk6 K5
          go_upto_region 16 with (fail)
          refine wp_name (fun W => Blo W v4.heap.size 26 #[.int .u8 (p0.toNat : Int), .int .u8 (p1.toNat : Int), .int .u8 (p2.toNat : Int), .int .u8 (p3.toNat : Int), .int .u8 (p4.toNat : Int), .int .u8 (p5.toNat : Int), .int .u8 (y0.toNat : Int), .int .u8 (y1.toNat : Int), .int .u8 (y2.toNat : Int), .int .u8 (y3.toNat : Int), .int .u8 (y4.toNat : Int), .int .u8 (y5.toNat : Int)] ∧ Blo W v6.heap.size 26 #[.int .u8 (p0.toNat : Int), .int .u8 (p1.toNat : Int), .int .u8 (p2.toNat : Int), .int .u8 (p3.toNat : Int), .int .u8 (p4.toNat : Int), .int .u8 (p5.toNat : Int), .int .u8 (y0.toNat : Int), .int .u8 (y1.toNat : Int), .int .u8 (y2.toNat : Int), .int .u8 (y3.toNat : Int), .int .u8 (y4.toNat : Int), .int .u8 (y5.toNat : Int)] ∧ Kept Nil w W) ⟨H18.out, H20.out, KT.out⟩ ?_
          generalize v4.heap.size = g18 at *
          generalize v6.heap.size = g20 at *
          clear H18 H20 KT
          rintro W7 ⟨h18, h20, hk⟩
          have KW := Lib.hid hk
          clear hk
          refine wp_region_quiet_below (by kernel_rfl) (by kernel_rfl) ?_
          have e3 := E34.out.1
          have e4 := E34.out.2
          have ca0 := h18.gcell 0
          have ca1 := h18.gcell 1
          have ca2 := h18.gcell 2
          have ca3 := h18.gcell 3
          have ca4 := h18.gcell 4
          have ca5 := h18.gcell 5
          have ca6 := h18.gcell 6
          have ca7 := h18.gcell 7
          have ca8 := h18.gcell 8
          have ca9 := h18.gcell 9
          have ca10 := h18.gcell 10
          have ca11 := h18.gcell 11
          simp at ca0 ca1 ca2 ca3 ca4 ca5 ca6 ca7 ca8 ca9 ca10 ca11
          have cb0 := h20.gcell 0
          have cb1 := h20.gcell 1
          have cb2 := h20.gcell 2
          have cb3 := h20.gcell 3
          have cb4 := h20.gcell 4
          have cb5 := h20.gcell 5
          have cb6 := h20.gcell 6
          have cb7 := h20.gcell 7
          have cb8 := h20.gcell 8
          have cb9 := h20.gcell 9
          have cb10 := h20.gcell 10
          have cb11 := h20.gcell 11
          simp at cb0 cb1 cb2 cb3 cb4 cb5 cb6 cb7 cb8 cb9 cb10 cb11
          repeat (go_big_quiet_step (first | (with_reducible exact quietK (MK.out _)) | (with_reducible exact quietK (TE.out _))))
          refine wpQuiet_nil ?_
          rintro wn2 ⟨nq2, hw2⟩
          have hkn : Kept Nil W7 wn2 := by rw [hw2]; exact kept_grown _ _
          have KE := Lib.hid (KW.out.then hkn)
          clear hw2 hkn ca0 ca1 ca2 ca3 ca4 ca5 ca6 ca7 ca8 ca9 ca10 ca11 cb0 cb1 cb2 cb3 cb4 cb5 cb6 cb7 cb8 cb9 cb10 cb11 h18 h20 e3 e4
          go_wp2
          go_ret
          exact ⟨rfl, KE.out.below (Nat.le_refl _) (fun _ hf => hf.elim)⟩
      · obtain ⟨z0, z1, z2, z3, z4, z5, rfl⟩ := six z (prs_len _ _ hz)
        have pz : ∀ w, Syn w → Calls Tryd.prog 27 #[.string tt] w fun r w' => r = .returned (.tuple #[.agg #[.int .u8 (z0.toNat : Int), .int .u8 (z1.toNat : Int), .int .u8 (z2.toNat : Int), .int .u8 (z3.toNat : Int), .int .u8 (z4.toNat : Int), .int .u8 (z5.toNat : Int)], .int .i64 0]) ∧ Kept Nil w w' := fun w hS => by
          have h := PZ.out w hS
          rw [hz] at h
          exact h
        have hlow := PL.out _ hz
        have tz : ∀ w, Calls Tryd.prog 9 #[.agg #[.int .u8 (z0.toNat : Int), .int .u8 (z1.toNat : Int), .int .u8 (z2.toNat : Int), .int .u8 (z3.toNat : Int), .int .u8 (z4.toNat : Int), .int .u8 (z5.toNat : Int)]] w fun r w' => r = .returned (.string ⟨(textL [z0, z1, z2, z3, z4, z5]).toArray⟩) ∧ Kept Nil w w' := Text_yes z0 z1 z2 z3 z4 z5
        have lz : ∀ w, Calls Tryd.prog 32 #[.string tt] w fun r w' => r = .returned (.string ⟨(textL [z0, z1, z2, z3, z4, z5]).toArray⟩) ∧ Kept Nil w w' := fun w => (Tryd.strings_ToLower_ascii tt w (by have := L60.out; omega) (fun j b hb => hlow.2 b (List.mem_of_getElem? hb))).mono fun r w' ⟨h1, h2⟩ => ⟨by rw [h1, hlow.1], below_kept h2⟩
        generalize (⟨(textL [z0, z1, z2, z3, z4, z5]).toArray⟩ : ByteArray) = tz0 at tz lz
        have PZ2 := Lib.hid pz
        have TZ := Lib.hid tz
        have LZ := Lib.hid lz
        clear pz tz lz hlow hz PZ PL
        go_wp2_with fail
        refine (PZ2.out _ (HS.out.kept KN.out)).mono ?_
        rintro r v1 ⟨rfl, hk1⟩
        have KT := Lib.hid ((KN.out.then hk1).alloc (.cells #[.int .u8 (z0.toNat : Int), .int .u8 (z1.toNat : Int), .int .u8 (z2.toNat : Int), .int .u8 (z3.toNat : Int), .int .u8 (z4.toNat : Int), .int .u8 (z5.toNat : Int)] 24))
        clear hk1
        go_wp2_with fail
        refine (TZ.out _).mono ?_
        rintro r v2 ⟨rfl, hk2⟩
        have KT := Lib.hid (KT.out.then hk2)
        clear hk2
        go_wp2_with fail
        refine (LZ.out _).mono ?_
        rintro r v3 ⟨rfl, hk3⟩
        have KT := Lib.hid (KT.out.then hk3)
        clear hk3
        go_upto_region 12 with (fail)
        refine wp_name (fun W => Kept Nil w W) KT.out ?_
        clear KT
        rintro Wt hkt
        have KT := Lib.hid hkt
        clear hkt
        rcases ppt_form tt.data.toList with ⟨er, he, h0⟩ | ⟨p0, p1, p2, p3, p4, p5, y0, y1, y2, y3, y4, y5, he, hand⟩
        · have pp : ∀ w, Syn w → Calls Tryd.prog 29 #[.string tt] w fun r w' => r = .returned (.tuple #[.agg #[.int .u8 0, .int .u8 0, .int .u8 0, .int .u8 0, .int .u8 0, .int .u8 0, .int .u8 0, .int .u8 0, .int .u8 0, .int .u8 0, .int .u8 0, .int .u8 0], .int .i64 (er : Int)]) ∧ Kept Nil w w' := fun w hS => by
            have h := PP.out w hS
            rw [he] at h
            exact h
          have ez : ∀ w, (Op.equalIn 10000 26 (.agg #[.int .u8 0, .int .u8 0, .int .u8 0, .int .u8 0, .int .u8 0, .int .u8 0, .int .u8 0, .int .u8 0, .int .u8 0, .int .u8 0, .int .u8 0, .int .u8 0]) (.agg #[.int .u8 0, .int .u8 0, .int .u8 0, .int .u8 0, .int .u8 0, .int .u8 0, .int .u8 0, .int .u8 0, .int .u8 0, .int .u8 0, .int .u8 0, .int .u8 0])).run Tryd.prog w = .ok true w := fun w => peq 0 0 0 0 0 0 0 0 0 0 0 0 w
          have hne : ((er : Int) != 0) = true := by simp; omega
          have PP2 := Lib.hid pp
          have EZ2 := Lib.hid ez
          clear pp ez he h0 PP
          go_wp2_with fail
          refine (PP2.out _ (HS.out.kept KT.out)).mono ?_
          rintro r v4 ⟨rfl, hk4⟩
          have KT := Lib.hid ((KT.out.then hk4).alloc (.cells #[.int .u8 0, .int .u8 0, .int .u8 0, .int .u8 0, .int .u8 0, .int .u8 0, .int .u8 0, .int .u8 0, .int .u8 0, .int .u8 0, .int .u8 0, .int .u8 0] 26))
          clear hk4
          have ez := EZ2.out
          go_wp2_with fail
          refine (tells_yes _).mono ?_
          rintro r v5 ⟨rfl, hk5⟩
          have KT := Lib.hid (KT.out.then hk5)
          clear hk5 ez
          go_wp2
          go_ret
          exact ⟨rfl, KT.out.below (Nat.le_refl _) (fun _ hf => hf.elim)⟩
        · have pp : ∀ w, Syn w → Calls Tryd.prog 29 #[.string tt] w fun r w' => r = .returned (.tuple #[.agg #[.int .u8 (p0.toNat : Int), .int .u8 (p1.toNat : Int), .int .u8 (p2.toNat : Int), .int .u8 (p3.toNat : Int), .int .u8 (p4.toNat : Int), .int .u8 (p5.toNat : Int), .int .u8 (y0.toNat : Int), .int .u8 (y1.toNat : Int), .int .u8 (y2.toNat : Int), .int .u8 (y3.toNat : Int), .int .u8 (y4.toNat : Int), .int .u8 (y5.toNat : Int)], .int .i64 0]) ∧ Kept Nil w w' := fun w hS => by
            have h := PP.out w hS
            rw [he] at h
            exact h
          have pt : ∀ w, Calls Tryd.prog 22 #[.agg #[.int .u8 (p0.toNat : Int), .int .u8 (p1.toNat : Int), .int .u8 (p2.toNat : Int), .int .u8 (p3.toNat : Int), .int .u8 (p4.toNat : Int), .int .u8 (p5.toNat : Int), .int .u8 (y0.toNat : Int), .int .u8 (y1.toNat : Int), .int .u8 (y2.toNat : Int), .int .u8 (y3.toNat : Int), .int .u8 (y4.toNat : Int), .int .u8 (y5.toNat : Int)]] w fun r w' => r = .returned (.string ⟨(ptx [p0, p1, p2, p3, p4, p5] [y0, y1, y2, y3, y4, y5]).toArray⟩) ∧ Kept Nil w w' := PText_any p0 p1 p2 p3 p4 p5 y0 y1 y2 y3 y4 y5
          have pp2 : ∀ w, Syn w → Calls Tryd.prog 29 #[.string ⟨(ptx [p0, p1, p2, p3, p4, p5] [y0, y1, y2, y3, y4, y5]).toArray⟩] w fun r w' => r = .returned (.tuple #[.agg #[.int .u8 (p0.toNat : Int), .int .u8 (p1.toNat : Int), .int .u8 (p2.toNat : Int), .int .u8 (p3.toNat : Int), .int .u8 (p4.toNat : Int), .int .u8 (p5.toNat : Int), .int .u8 (y0.toNat : Int), .int .u8 (y1.toNat : Int), .int .u8 (y2.toNat : Int), .int .u8 (y3.toNat : Int), .int .u8 (y4.toNat : Int), .int .u8 (y5.toNat : Int)], .int .i64 0]) ∧ Kept Nil w w' := fun w hS => by
            have h := PPat_any ⟨(ptx [p0, p1, p2, p3, p4, p5] [y0, y1, y2, y3, y4, y5]).toArray⟩ (ptx_size p0 p1 p2 p3 p4 p5 y0 y1 y2 y3 y4 y5) w hS
            rw [show (⟨(ptx [p0, p1, p2, p3, p4, p5] [y0, y1, y2, y3, y4, y5]).toArray⟩ : ByteArray).data.toList = ptx [p0, p1, p2, p3, p4, p5] [y0, y1, y2, y3, y4, y5] from rfl, ppt_ptx, hand] at h
            exact h
          have mk : ∀ w, Calls Tryd.prog 20 #[.agg #[.int .u8 (p0.toNat : Int), .int .u8 (p1.toNat : Int), .int .u8 (p2.toNat : Int), .int .u8 (p3.toNat : Int), .int .u8 (p4.toNat : Int), .int .u8 (p5.toNat : Int)], .agg #[.int .u8 (y0.toNat : Int), .int .u8 (y1.toNat : Int), .int .u8 (y2.toNat : Int), .int .u8 (y3.toNat : Int), .int .u8 (y4.toNat : Int), .int .u8 (y5.toNat : Int)]] w fun r w' => r = .returned (.agg #[.int .u8 (p0.toNat : Int), .int .u8 (p1.toNat : Int), .int .u8 (p2.toNat : Int), .int .u8 (p3.toNat : Int), .int .u8 (p4.toNat : Int), .int .u8 (p5.toNat : Int)]) ∧ Kept Nil w w' := fun w => by
            have h : Calls Tryd.prog 20 #[.agg #[.int .u8 (p0.toNat : Int), .int .u8 (p1.toNat : Int), .int .u8 (p2.toNat : Int), .int .u8 (p3.toNat : Int), .int .u8 (p4.toNat : Int), .int .u8 (p5.toNat : Int)], .agg #[.int .u8 (y0.toNat : Int), .int .u8 (y1.toNat : Int), .int .u8 (y2.toNat : Int), .int .u8 (y3.toNat : Int), .int .u8 (y4.toNat : Int), .int .u8 (y5.toNat : Int)]] w fun r w' => r = .returned (mv (andL [p0, p1, p2, p3, p4, p5] [y0, y1, y2, y3, y4, y5])) ∧ Kept Nil w w' := Masked_yes p0 p1 p2 p3 p4 p5 y0 y1 y2 y3 y4 y5 w
            rw [hand] at h
            exact h
          generalize (⟨(ptx [p0, p1, p2, p3, p4, p5] [y0, y1, y2, y3, y4, y5]).toArray⟩ : ByteArray) = tq at pt pp2
          have e3 : ∀ w, (Op.equalIn 10000 24 (.agg #[.int .u8 (p0.toNat : Int), .int .u8 (p1.toNat : Int), .int .u8 (p2.toNat : Int), .int .u8 (p3.toNat : Int), .int .u8 (p4.toNat : Int), .int .u8 (p5.toNat : Int)]) (.agg #[.int .u8 (p0.toNat : Int), .int .u8 (p1.toNat : Int), .int .u8 (p2.toNat : Int), .int .u8 (p3.toNat : Int), .int .u8 (p4.toNat : Int), .int .u8 (p5.toNat : Int)])).run Tryd.prog w = .ok true w := fun w => by
            have h := meq [p0, p1, p2, p3, p4, p5] [p0, p1, p2, p3, p4, p5] rfl rfl w
            rw [beq_self_eq_true] at h
            exact h
          have e4 : ∀ w, (Op.equalIn 10000 26 (.agg #[.int .u8 (p0.toNat : Int), .int .u8 (p1.toNat : Int), .int .u8 (p2.toNat : Int), .int .u8 (p3.toNat : Int), .int .u8 (p4.toNat : Int), .int .u8 (p5.toNat : Int), .int .u8 (y0.toNat : Int), .int .u8 (y1.toNat : Int), .int .u8 (y2.toNat : Int), .int .u8 (y3.toNat : Int), .int .u8 (y4.toNat : Int), .int .u8 (y5.toNat : Int)]) (.agg #[.int .u8 (p0.toNat : Int), .int .u8 (p1.toNat : Int), .int .u8 (p2.toNat : Int), .int .u8 (p3.toNat : Int), .int .u8 (p4.toNat : Int), .int .u8 (p5.toNat : Int), .int .u8 (y0.toNat : Int), .int .u8 (y1.toNat : Int), .int .u8 (y2.toNat : Int), .int .u8 (y3.toNat : Int), .int .u8 (y4.toNat : Int), .int .u8 (y5.toNat : Int)])).run Tryd.prog w = .ok true w := fun w => peq p0 p1 p2 p3 p4 p5 y0 y1 y2 y3 y4 y5 w
          have E34 := Lib.hid (And.intro e3 e4)
          have PP2 := Lib.hid pp
          have PP3 := Lib.hid pp2
          have PT := Lib.hid pt
          have MK := Lib.hid mk
          have TE := Lib.hid (fun w => tells_yes w)
          clear pp pp2 pt mk e3 e4 he hand PP
          go_wp2_with fail
          refine (PP2.out _ (HS.out.kept KT.out)).mono ?_
          rintro r v4 ⟨rfl, hk4⟩
          have KT := Lib.hid ((KT.out.then hk4).alloc (.cells #[.int .u8 (p0.toNat : Int), .int .u8 (p1.toNat : Int), .int .u8 (p2.toNat : Int), .int .u8 (p3.toNat : Int), .int .u8 (p4.toNat : Int), .int .u8 (p5.toNat : Int), .int .u8 (y0.toNat : Int), .int .u8 (y1.toNat : Int), .int .u8 (y2.toNat : Int), .int .u8 (y3.toNat : Int), .int .u8 (y4.toNat : Int), .int .u8 (y5.toNat : Int)] 26))
          have H18 := Lib.hid (Blo.new v4 26 #[.int .u8 (p0.toNat : Int), .int .u8 (p1.toNat : Int), .int .u8 (p2.toNat : Int), .int .u8 (p3.toNat : Int), .int .u8 (p4.toNat : Int), .int .u8 (p5.toNat : Int), .int .u8 (y0.toNat : Int), .int .u8 (y1.toNat : Int), .int .u8 (y2.toNat : Int), .int .u8 (y3.toNat : Int), .int .u8 (y4.toNat : Int), .int .u8 (y5.toNat : Int)])
          clear hk4
          go_wp2_with fail
          refine (PT.out _).mono ?_
          rintro r v5 ⟨rfl, hk5⟩
          have K5 := Lib.hid (KT.out.then hk5)
          go_wp2_with fail
          refine (PP3.out _ (HS.out.kept K5.out)).mono ?_
          rintro r v6 ⟨rfl, hk6⟩
          have H18 := Lib.hid ((H18.out.kept (hk5.then hk6) (fun hf => hf)).alloc (.cells #[.int .u8 (p0.toNat : Int), .int .u8 (p1.toNat : Int), .int .u8 (p2.toNat : Int), .int .u8 (p3.toNat : Int), .int .u8 (p4.toNat : Int), .int .u8 (p5.toNat : Int), .int .u8 (y0.toNat : Int), .int .u8 (y1.toNat : Int), .int .u8 (y2.toNat : Int), .int .u8 (y3.toNat : Int), .int .u8 (y4.toNat : Int), .int .u8 (y5.toNat : Int)] 26))
          have H20 := Lib.hid (Blo.new v6 26 #[.int .u8 (p0.toNat : Int), .int .u8 (p1.toNat : Int), .int .u8 (p2.toNat : Int), .int .u8 (p3.toNat : Int), .int .u8 (p4.toNat : Int), .int .u8 (p5.toNat : Int), .int .u8 (y0.toNat : Int), .int .u8 (y1.toNat : Int), .int .u8 (y2.toNat : Int), .int .u8 (y3.toNat : Int), .int .u8 (y4.toNat : Int), .int .u8 (y5.toNat : Int)])
          have KT := Lib.hid ((K5.out.then hk6).alloc (.cells #[.int .u8 (p0.toNat : Int), .int .u8 (p1.toNat : Int), .int .u8 (p2.toNat : Int), .int .u8 (p3.toNat : Int), .int .u8 (p4.toNat : Int), .int .u8 (p5.toNat : Int), .int .u8 (y0.toNat : Int), .int .u8 (y1.toNat : Int), .int .u8 (y2.toNat : Int), .int .u8 (y3.toNat : Int), .int .u8 (y4.toNat : Int), .int .u8 (y5.toNat : Int)] 26))
          clear hk5 hk6 K5
          go_upto_region 16 with (fail)
          refine wp_name (fun W => Blo W v4.heap.size 26 #[.int .u8 (p0.toNat : Int), .int .u8 (p1.toNat : Int), .int .u8 (p2.toNat : Int), .int .u8 (p3.toNat : Int), .int .u8 (p4.toNat : Int), .int .u8 (p5.toNat : Int), .int .u8 (y0.toNat : Int), .int .u8 (y1.toNat : Int), .int .u8 (y2.toNat : Int), .int .u8 (y3.toNat : Int), .int .u8 (y4.toNat : Int), .int .u8 (y5.toNat : Int)] ∧ Blo W v6.heap.size 26 #[.int .u8 (p0.toNat : Int), .int .u8 (p1.toNat : Int), .int .u8 (p2.toNat : Int), .int .u8 (p3.toNat : Int), .int .u8 (p4.toNat : Int), .int .u8 (p5.toNat : Int), .int .u8 (y0.toNat : Int), .int .u8 (y1.toNat : Int), .int .u8 (y2.toNat : Int), .int .u8 (y3.toNat : Int), .int .u8 (y4.toNat : Int), .int .u8 (y5.toNat : Int)] ∧ Kept Nil w W) ⟨H18.out, H20.out, KT.out⟩ ?_
          generalize v4.heap.size = g18 at *
          generalize v6.heap.size = g20 at *
          clear H18 H20 KT
          rintro W7 ⟨h18, h20, hk⟩
          have KW := Lib.hid hk
          clear hk
          refine wp_region_quiet_below (by kernel_rfl) (by kernel_rfl) ?_
          have e3 := E34.out.1
          have e4 := E34.out.2
          have ca0 := h18.gcell 0
          have ca1 := h18.gcell 1
          have ca2 := h18.gcell 2
          have ca3 := h18.gcell 3
          have ca4 := h18.gcell 4
          have ca5 := h18.gcell 5
          have ca6 := h18.gcell 6
          have ca7 := h18.gcell 7
          have ca8 := h18.gcell 8
          have ca9 := h18.gcell 9
          have ca10 := h18.gcell 10
          have ca11 := h18.gcell 11
          simp at ca0 ca1 ca2 ca3 ca4 ca5 ca6 ca7 ca8 ca9 ca10 ca11
          have cb0 := h20.gcell 0
          have cb1 := h20.gcell 1
          have cb2 := h20.gcell 2
          have cb3 := h20.gcell 3
          have cb4 := h20.gcell 4
          have cb5 := h20.gcell 5
          have cb6 := h20.gcell 6
          have cb7 := h20.gcell 7
          have cb8 := h20.gcell 8
          have cb9 := h20.gcell 9
          have cb10 := h20.gcell 10
          have cb11 := h20.gcell 11
          simp at cb0 cb1 cb2 cb3 cb4 cb5 cb6 cb7 cb8 cb9 cb10 cb11
          repeat (go_big_quiet_step (first | (with_reducible exact quietK (MK.out _)) | (with_reducible exact quietK (TE.out _))))
          refine wpQuiet_nil ?_
          rintro wn2 ⟨nq2, hw2⟩
          have hkn : Kept Nil W7 wn2 := by rw [hw2]; exact kept_grown _ _
          have KE := Lib.hid (KW.out.then hkn)
          clear hw2 hkn ca0 ca1 ca2 ca3 ca4 ca5 ca6 ca7 ca8 ca9 ca10 ca11 cb0 cb1 cb2 cb3 cb4 cb5 cb6 cb7 cb8 cb9 cb10 cb11 h18 h20 e3 e4
          go_wp2
          go_ret
          exact ⟨rfl, KE.out.below (Nat.le_refl _) (fun _ hf => hf.elim)⟩
theorem mback_go (a0 a1 a2 a3 a4 a5 b0 b1 b2 b3 b4 b5 : UInt8) (s : ByteArray) (w : World) (hs : s.size ≤ 9223372036854775807) (h : laidMetH Tryd.prog Rows.macBackRow.laid w) :
    Calls Tryd.prog 5 #[.agg #[.int .u8 (a0.toNat : Int), .int .u8 (a1.toNat : Int), .int .u8 (a2.toNat : Int), .int .u8 (a3.toNat : Int), .int .u8 (a4.toNat : Int), .int .u8 (a5.toNat : Int)], .agg #[.int .u8 (b0.toNat : Int), .int .u8 (b1.toNat : Int), .int .u8 (b2.toNat : Int), .int .u8 (b3.toNat : Int), .int .u8 (b4.toNat : Int), .int .u8 (b5.toNat : Int)], .string s] w fun r w' => r = .returned (.bool true) ∧ Below w.heap.size w w' :=
  mback_yes a0 a1 a2 a3 a4 a5 b0 b1 b2 b3 b4 b5 s hs w (syn_of h (by kernel_rfl))
end Go.Proofs.YtifoepglhlpoiaaDoor
