/- Contracts of package mac, second part: Kind, Matches. -/
import Derived.Test.YtifoepglhlpoiaaDoorMacA
import Derived.Deep.RegionLaw
import Derived.RegionTactic
namespace Go.Proofs.YtifoepglhlpoiaaDoor
open Go.RowKit
set_option linter.unusedVariables false

/-- A pattern as a value: its address, then its mask. -/
def pv (l m : List UInt8) : Value := .agg (bys (l ++ m)).toArray
/-- The kind of an address. -/
def kindL (l : List UInt8) : Int :=
  if l = [0, 0, 0, 0, 0, 0] then 1 else if l = [255, 255, 255, 255, 255, 255] then 2 else if rsvL l = true then 3 else if (l.headD 0).toNat % 2 = 1 then 4 else 5
theorem mask48 : maskL 48 = [255, 255, 255, 255, 255, 255] := by decide
set_option maxHeartbeats 2000000 in
theorem Kind_yes (a b c d e f : UInt8) (w : World) :
    Calls Tryd.prog 15 #[mv [a, b, c, d, e, f]] w fun r w' => r = .returned (.int .i64 (kindL [a, b, c, d, e, f])) ∧ Kept Nil w w' := by
  have hr := isReserved_yes a b c d e f
  have hgr := IsGroup_yes a b c d e f
  have hbits : ∀ W : World, Calls Tryd.prog 18 #[.int .i64 48] W fun r w' => r = .returned (.agg #[.int .u8 255, .int .u8 255, .int .u8 255, .int .u8 255, .int .u8 255, .int .u8 255]) ∧ Kept Nil W w' := fun W => by
    have := Bits_at 48 48 (by omega) (.inr (.inr rfl)) W
    rw [mask48] at this
    exact this
  rw [mv6] at *
  have he0 := meq [a, b, c, d, e, f] [0, 0, 0, 0, 0, 0] rfl rfl
  have he1 := meq [a, b, c, d, e, f] [255, 255, 255, 255, 255, 255] rfl rfl
  have he2 : ∀ w, (Op.equalIn 10000 24 (.agg #[.int .u8 (a.toNat : Int), .int .u8 (b.toNat : Int), .int .u8 (c.toNat : Int), .int .u8 (d.toNat : Int), .int .u8 (e.toNat : Int), .int .u8 (f.toNat : Int)]) (.agg #[.int .u8 0, .int .u8 0, .int .u8 0, .int .u8 0, .int .u8 0, .int .u8 0])).run Tryd.prog w = .ok ([a, b, c, d, e, f] == [0, 0, 0, 0, 0, 0]) w := he0
  have he3 : ∀ w, (Op.equalIn 10000 24 (.agg #[.int .u8 (a.toNat : Int), .int .u8 (b.toNat : Int), .int .u8 (c.toNat : Int), .int .u8 (d.toNat : Int), .int .u8 (e.toNat : Int), .int .u8 (f.toNat : Int)]) (.agg #[.int .u8 255, .int .u8 255, .int .u8 255, .int .u8 255, .int .u8 255, .int .u8 255])).run Tryd.prog w = .ok ([a, b, c, d, e, f] == [255, 255, 255, 255, 255, 255]) w := he1
  clear he0 he1
  have HR := Lib.hid hr
  have HGR := Lib.hid hgr
  have HBI := Lib.hid hbits
  clear hr hgr hbits
  by_cases h0 : [a, b, c, d, e, f] = [0, 0, 0, 0, 0, 0]
  · rw [show ([a, b, c, d, e, f] == [0, 0, 0, 0, 0, 0]) = true from by simpa using h0] at he2
    have H0 := Lib.hid h0
    clear h0 he3
    go_enter Tryd.func15, Tryd.ntmps15
    go_wp2_with fail
    go_ret
    exact ⟨by rw [kindL, if_pos H0.out]; rfl, (Kept.refl Nil w).alloc _⟩
  · rw [show ([a, b, c, d, e, f] == [0, 0, 0, 0, 0, 0]) = false from by simpa using h0] at he2
    have H0 := Lib.hid h0
    clear h0
    have hbw := Blo.new w 24 #[.int .u8 (a.toNat : Int), .int .u8 (b.toNat : Int), .int .u8 (c.toNat : Int), .int .u8 (d.toNat : Int), .int .u8 (e.toNat : Int), .int .u8 (f.toNat : Int)]
    have HBW := Lib.hid hbw
    clear hbw
    by_cases h1 : [a, b, c, d, e, f] = [255, 255, 255, 255, 255, 255]
    · rw [show ([a, b, c, d, e, f] == [255, 255, 255, 255, 255, 255]) = true from by simpa using h1] at he3
      have H1 := Lib.hid h1
      clear h1
      go_enter Tryd.func15, Tryd.ntmps15
      go_wp2_with fail
      go_region_law (go_simp; go_at_call 18; refine (HBI.out _).mono ?_; rintro e' w1 ⟨rfl, hk1⟩; have hb1 := HBW.out.kept ((Kept.refl Nil _).drew.then hk1) (fun hf => hf); have c0 := hb1.cell 0; have c1 := hb1.cell 1; have c2 := hb1.cell 2; have c3 := hb1.cell 3; have c4 := hb1.cell 4; have c5 := hb1.cell 5; simp at c0 c1 c2 c3 c4 c5; have HK1 := Lib.hid (((Kept.refl Nil w).alloc _).then ((Kept.refl Nil _).drew.then hk1)); have HB1 := Lib.hid hb1; clear hb1 hk1)
      all_goals
        go_wp2_with fail
        go_ret
        exact ⟨by rw [kindL, if_neg H0.out, if_pos H1.out]; rfl, HK1.out⟩
    · rw [show ([a, b, c, d, e, f] == [255, 255, 255, 255, 255, 255]) = false from by simpa using h1] at he3
      have H1 := Lib.hid h1
      clear h1
      go_enter Tryd.func15, Tryd.ntmps15
      go_wp2_with fail
      go_region_law (go_simp; go_at_call 18; refine (HBI.out _).mono ?_; rintro e' w1 ⟨rfl, hk1⟩; have hb1 := HBW.out.kept ((Kept.refl Nil _).drew.then hk1) (fun hf => hf); have c0 := hb1.cell 0; have c1 := hb1.cell 1; have c2 := hb1.cell 2; have c3 := hb1.cell 3; have c4 := hb1.cell 4; have c5 := hb1.cell 5; simp at c0 c1 c2 c3 c4 c5; have HK1 := Lib.hid (((Kept.refl Nil w).alloc _).then ((Kept.refl Nil _).drew.then hk1)); have HB1 := Lib.hid hb1; clear hb1 hk1)
      all_goals
        go_wp2_with fail
        refine (HR.out _).mono ?_
        rintro e' w2 ⟨rfl, hk2⟩
        have hb2 := HB1.out.kept hk2 (fun hf => hf)
        have d0 := hb2.cell 0
        have d1 := hb2.cell 1
        have d2 := hb2.cell 2
        have d3 := hb2.cell 3
        have d4 := hb2.cell 4
        have d5 := hb2.cell 5
        simp at d0 d1 d2 d3 d4 d5
        have HK2 := Lib.hid (HK1.out.then hk2)
        clear hb2 hk2
        cases hrs : rsvL [a, b, c, d, e, f] with
        | true =>
          have HRS := Lib.hid hrs
          clear hrs
          go_wp2_with fail
          go_ret
          exact ⟨by rw [kindL, if_neg H0.out, if_neg H1.out, if_pos HRS.out]; rfl, HK2.out⟩
        | false =>
          have HRS := Lib.hid hrs
          clear hrs
          go_wp2_with fail
          refine (HGR.out _).mono ?_
          rintro e' w3 ⟨rfl, hk3⟩
          have HK3 := Lib.hid (HK2.out.then hk3)
          clear hk3
          cases hod : (a.toNat % 2 == 1) with
          | true =>
            have HOD := Lib.hid hod
            clear hod
            go_wp2_with fail
            go_ret
            exact ⟨by rw [kindL, if_neg H0.out, if_neg H1.out, if_neg (by rw [HRS.out]; simp), if_pos (by simpa using HOD.out)]; rfl, HK3.out⟩
          | false =>
            have HOD := Lib.hid hod
            clear hod
            go_wp2_with fail
            go_ret
            exact ⟨by rw [kindL, if_neg H0.out, if_neg H1.out, if_neg (by rw [HRS.out]; simp), if_neg (by simpa using HOD.out)]; rfl, HK3.out⟩

theorem Masked_e (a b c d e f a' b' c' d' e' f' : UInt8) (w : World) :
    Calls Tryd.prog 20 #[(.agg #[.int .u8 (a.toNat : Int), .int .u8 (b.toNat : Int), .int .u8 (c.toNat : Int), .int .u8 (d.toNat : Int), .int .u8 (e.toNat : Int), .int .u8 (f.toNat : Int)]), (.agg #[.int .u8 (a'.toNat : Int), .int .u8 (b'.toNat : Int), .int .u8 (c'.toNat : Int), .int .u8 (d'.toNat : Int), .int .u8 (e'.toNat : Int), .int .u8 (f'.toNat : Int)])] w fun r w' => ∃ y0 y1 y2 y3 y4 y5 : UInt8, [y0, y1, y2, y3, y4, y5] = andL [a, b, c, d, e, f] [a', b', c', d', e', f'] ∧ r = .returned (.agg #[.int .u8 (y0.toNat : Int), .int .u8 (y1.toNat : Int), .int .u8 (y2.toNat : Int), .int .u8 (y3.toNat : Int), .int .u8 (y4.toNat : Int), .int .u8 (y5.toNat : Int)]) ∧ Kept Nil w w' :=
  (Masked_yes a b c d e f a' b' c' d' e' f' w).mono fun r w' ⟨h, k⟩ => ⟨_, _, _, _, _, _, rfl, h, k⟩
set_option maxHeartbeats 2000000 in
theorem Matches_yes (a b c d e f a' b' c' d' e' f' x0 x1 x2 x3 x4 x5 : UInt8) (w : World) :
    Calls Tryd.prog 24 #[pv [a, b, c, d, e, f] [a', b', c', d', e', f'], mv [x0, x1, x2, x3, x4, x5]] w fun r w' => r = .returned (.bool (andL [x0, x1, x2, x3, x4, x5] [a', b', c', d', e', f'] == andL [a, b, c, d, e, f] [a', b', c', d', e', f'])) ∧ Kept Nil w w' := by
  rw [mv6, show pv [a, b, c, d, e, f] [a', b', c', d', e', f'] = (.agg #[.int .u8 (a.toNat : Int), .int .u8 (b.toNat : Int), .int .u8 (c.toNat : Int), .int .u8 (d.toNat : Int), .int .u8 (e.toNat : Int), .int .u8 (f.toNat : Int), .int .u8 (a'.toNat : Int), .int .u8 (b'.toNat : Int), .int .u8 (c'.toNat : Int), .int .u8 (d'.toNat : Int), .int .u8 (e'.toNat : Int), .int .u8 (f'.toNat : Int)]) from rfl]
  have hbp := Blo.new w 26 #[.int .u8 (a.toNat : Int), .int .u8 (b.toNat : Int), .int .u8 (c.toNat : Int), .int .u8 (d.toNat : Int), .int .u8 (e.toNat : Int), .int .u8 (f.toNat : Int), .int .u8 (a'.toNat : Int), .int .u8 (b'.toNat : Int), .int .u8 (c'.toNat : Int), .int .u8 (d'.toNat : Int), .int .u8 (e'.toNat : Int), .int .u8 (f'.toNat : Int)]
  have hbx := Blo.new (w.alloc (.cells #[.int .u8 (a.toNat : Int), .int .u8 (b.toNat : Int), .int .u8 (c.toNat : Int), .int .u8 (d.toNat : Int), .int .u8 (e.toNat : Int), .int .u8 (f.toNat : Int), .int .u8 (a'.toNat : Int), .int .u8 (b'.toNat : Int), .int .u8 (c'.toNat : Int), .int .u8 (d'.toNat : Int), .int .u8 (e'.toNat : Int), .int .u8 (f'.toNat : Int)] 26)) 24 #[.int .u8 (x0.toNat : Int), .int .u8 (x1.toNat : Int), .int .u8 (x2.toNat : Int), .int .u8 (x3.toNat : Int), .int .u8 (x4.toNat : Int), .int .u8 (x5.toNat : Int)]
  have hbq := hbp.alloc (.cells #[.int .u8 (x0.toNat : Int), .int .u8 (x1.toNat : Int), .int .u8 (x2.toNat : Int), .int .u8 (x3.toNat : Int), .int .u8 (x4.toNat : Int), .int .u8 (x5.toNat : Int)] 24)
  have HBP := Lib.hid hbq
  have HBX := Lib.hid hbx
  clear hbp hbq hbx
  go_enter Tryd.func24, Tryd.ntmps24
  go_wp2_with fail
  go_region_law (first
    | (go_simp; go_at_call 20; (with_reducible refine (Masked_e x0 x1 x2 x3 x4 x5 a' b' c' d' e' f' _).mono ?_); rintro e1 w1 ⟨y0, y1, y2, y3, y4, y5, hy, rfl, hk1⟩; have HY := Lib.hid hy; clear hy; have hp1 := HBP.out.kept ((Kept.refl Nil _).drew.then hk1) (fun hf => hf); have p0 := hp1.cell 0; have p1 := hp1.cell 1; have p2 := hp1.cell 2; have p3 := hp1.cell 3; have p4 := hp1.cell 4; have p5 := hp1.cell 5; have p6 := hp1.cell 6; have p7 := hp1.cell 7; have p8 := hp1.cell 8; have p9 := hp1.cell 9; have p10 := hp1.cell 10; have p11 := hp1.cell 11; simp at p0 p1 p2 p3 p4 p5 p6 p7 p8 p9 p10 p11; have HK1 := Lib.hid ((((Kept.refl Nil w).alloc _).alloc _).then ((Kept.refl Nil _).drew.then hk1)); clear hk1 hp1)
    | (go_simp; go_at_call 20; (with_reducible refine (Masked_e a b c d e f a' b' c' d' e' f' _).mono ?_); rintro e2 w2 ⟨z0, z1, z2, z3, z4, z5, hz, rfl, hk2⟩; have HZ := Lib.hid hz; have he2 : ∀ w, (Op.equalIn 10000 24 (.agg #[.int .u8 (y0.toNat : Int), .int .u8 (y1.toNat : Int), .int .u8 (y2.toNat : Int), .int .u8 (y3.toNat : Int), .int .u8 (y4.toNat : Int), .int .u8 (y5.toNat : Int)]) (.agg #[.int .u8 (z0.toNat : Int), .int .u8 (z1.toNat : Int), .int .u8 (z2.toNat : Int), .int .u8 (z3.toNat : Int), .int .u8 (z4.toNat : Int), .int .u8 (z5.toNat : Int)])).run Tryd.prog w = .ok ([y0, y1, y2, y3, y4, y5] == [z0, z1, z2, z3, z4, z5]) w := meq [y0, y1, y2, y3, y4, y5] [z0, z1, z2, z3, z4, z5] rfl rfl; generalize hbb : ([y0, y1, y2, y3, y4, y5] == [z0, z1, z2, z3, z4, z5]) = bb at he2; have HBB := Lib.hid hbb; have HK2 := Lib.hid hk2; clear hk2 hz hbb))
  all_goals
    go_wp2
    go_ret
    exact ⟨by rw [← HY.out, ← HZ.out, HBB.out]; rfl, HK1.out.then HK2.out⟩
end Go.Proofs.YtifoepglhlpoiaaDoor
