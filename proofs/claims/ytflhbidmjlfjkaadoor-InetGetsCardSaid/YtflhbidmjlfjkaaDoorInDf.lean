/- tolllaw06.differ. What a reader tells: nothing, or what is there. -/
import Derived.Test.YtflhbidmjlfjkaaDoorInZ
import Derived.Test.YtflhbidmjlfjkaaDoorEthT
import Derived.Test.YtflhbidmjlfjkaaDoorCutD
import Derived.Lib.QuietBelow
import Derived.Test.YtflhbidmjlfjkaaDoorInD
namespace Go.Proofs.YtflhbidmjlfjkaaDoor
open Go.RowKit Go.Sort
set_option linter.unusedVariables false

theorem two_at {l : List UInt8} {a b : UInt8} (h : (l.drop 10).take 2 = [a, b]) : l[10]? = some a ∧ l[11]? = some b := by
  have h0 : ((l.drop 10).take 2)[0]? = some a := by rw [h]; rfl
  have h1 : ((l.drop 10).take 2)[1]? = some b := by rw [h]; rfl
  rw [List.getElem?_take_of_lt (by decide), List.getElem?_drop] at h0 h1
  exact ⟨h0, h1⟩
set_option maxRecDepth 100000 in
set_option maxHeartbeats 8000000 in
theorem differ_yes (A : Option Addr) (n c : Nat) (B : Option Addr) (d : Nat) (x y : List UInt8) (w : World) (hx : Byt w A n c x) (hy : Byt w B n d y) (h12 : 12 ≤ n) (hn : n ≤ 1099511627776)
    (ht : x.take 10 = y.take 10) (hd : x.drop 12 = y.drop 12) (hs : (x.drop 10).take 2 = (y.drop 10).take 2 ∨ ((x.drop 10).take 2 = [0, 0] ∧ (y.drop 10).take 2 = [255, 255])) :
    Calls Tryd.prog 32 #[.slice A n c, .slice B n d] w fun e w' => e = .returned (.bool true) ∧ Kept Nil w w' := by
  have hnc := hx.2.1
  have hnd := hy.2.1
  have hcc := hx.2.2.1
  have hdd := hy.2.2.1
  have hlx := hx.1
  have hly := hy.1
  obtain ⟨b, o, rfl, -⟩ := hx.2.2.2 (by omega)
  obtain ⟨b2, o2, rfl, -⟩ := hy.2.2.2 (by omega)
  have h12I : ¬ (n : Int) < 12 := by omega
  have h10 : (10 : Int) < (n : Int) := by omega
  have h11 : (11 : Int) < (n : Int) := by omega
  have cutx := fun (lo hi : Nat) (p q : Int) (hp : p = (lo : Int)) (hq : q = (hi : Int)) (h1 : lo ≤ hi) (h2 : hi ≤ c) => run_cut (P := Tryd.prog) Tryd.underlying25 inf5.1 inf5.2 (some ⟨b, o, none⟩) n c lo hi p q hp hq h1 h2
  have cuty := fun (lo hi : Nat) (p q : Int) (hp : p = (lo : Int)) (hq : q = (hi : Int)) (h1 : lo ≤ hi) (h2 : hi ≤ d) => run_cut (P := Tryd.prog) Tryd.underlying25 inf5.1 inf5.2 (some ⟨b2, o2, none⟩) n d lo hi p q hp hq h1 h2
  obtain ⟨Ax, hAx⟩ : ∃ B, cutA (some ⟨b, o, none⟩) c 10 = B := ⟨_, rfl⟩
  obtain ⟨Ay, hAy⟩ : ∃ B, cutA (some ⟨b2, o2, none⟩) d 10 = B := ⟨_, rfl⟩
  obtain ⟨Bx, hBx⟩ : ∃ B, cutA (some ⟨b, o, none⟩) c 12 = B := ⟨_, rfl⟩
  obtain ⟨By, hBy⟩ : ∃ B, cutA (some ⟨b2, o2, none⟩) d 12 = B := ⟨_, rfl⟩
  have sx1 := run_cut_hi (P := Tryd.prog) Tryd.underlying25 inf5.1 (some ⟨b, o, none⟩) n c 10 (10 : Int) rfl (by omega)
  have sy1 := run_cut_hi (P := Tryd.prog) Tryd.underlying25 inf5.1 (some ⟨b2, o2, none⟩) n d 10 (10 : Int) rfl (by omega)
  have sx2 := run_cut_lo (P := Tryd.prog) Tryd.underlying25 inf5.1 inf5.2 (some ⟨b, o, none⟩) n c 12 (12 : Int) rfl (by omega)
  have sy2 := run_cut_lo (P := Tryd.prog) Tryd.underlying25 inf5.1 inf5.2 (some ⟨b2, o2, none⟩) n d 12 (12 : Int) rfl (by omega)
  have sx3 := cutx 10 12 10 12 rfl rfl (by omega) (by omega)
  have sy3 := cuty 10 12 10 12 rfl rfl (by omega) (by omega)
  rw [hBx] at sx2
  rw [hBy] at sy2
  rw [hAx] at sx3
  rw [hAy] at sy3
  have bx1 := hx.pre (hi := 10) (by omega)
  have by1 := hy.pre (hi := 10) (by omega)
  have bx2 := hx.cut (lo := 12) (hi := n) (by omega) (Nat.le_refl _)
  have by2 := hy.cut (lo := 12) (hi := n) (by omega) (Nat.le_refl _)
  rw [hBx, ← hlx, List.take_length] at bx2
  rw [hBy, ← hly, List.take_length] at by2
  rw [hlx] at bx2
  rw [hly, ← hd] at by2
  rw [← ht] at by1
  have bx3 := hx.cut (lo := 10) (hi := 12) (by omega) (by omega)
  have by3 := hy.cut (lo := 10) (hi := 12) (by omega) (by omega)
  rw [hAx, List.drop_take] at bx3
  rw [hAy, List.drop_take] at by3
  have tx1 := fun dr os => (bx1.kept (kept_grown' w dr os) (fun _ _ hf => hf)).text (P := Tryd.prog) Tryd.underlying25 Tryd.underlying5 Tryd.underlying9
  have ty1 := fun dr os => (by1.kept (kept_grown' w dr os) (fun _ _ hf => hf)).text (P := Tryd.prog) Tryd.underlying25 Tryd.underlying5 Tryd.underlying9
  have tx2 := fun dr os => (bx2.kept (kept_grown' w dr os) (fun _ _ hf => hf)).text (P := Tryd.prog) Tryd.underlying25 Tryd.underlying5 Tryd.underlying9
  have ty2 := fun dr os => (by2.kept (kept_grown' w dr os) (fun _ _ hf => hf)).text (P := Tryd.prog) Tryd.underlying25 Tryd.underlying5 Tryd.underlying9
  obtain ⟨X1, hX1⟩ : ∃ z : ByteArray, ⟨(x.take 10).toArray⟩ = z := ⟨_, rfl⟩
  obtain ⟨X2, hX2⟩ : ∃ z : ByteArray, ⟨(x.drop 12).toArray⟩ = z := ⟨_, rfl⟩
  have hsz : ¬ 9223372036854775807 < X1.size + X2.size := by
    have e1 : X1.size ≤ 10 := by rw [← hX1]; show (x.take 10).toArray.size ≤ 10; rw [List.size_toArray, List.length_take]; omega
    have e2 : X2.size ≤ n := by rw [← hX2]; show (x.drop 12).toArray.size ≤ n; rw [List.size_toArray, List.length_drop]; omega
    omega
  rw [hX1] at tx1 ty1
  rw [hX2] at tx2 ty2
  have HX := Lib.hid hx
  have HY := Lib.hid hy
  have BX3 := Lib.hid bx3
  have BY3 := Lib.hid by3
  have HS := Lib.hid hs
  clear hx hy bx1 by1 bx2 by2 bx3 by3 cutx cuty hAx hAy hBx hBy hX1 hX2 ht hd hs hlx hly
  go_enter Tryd.func32, Tryd.ntmps32
  go_upto_region 3 with (fail)
  refine wp_region_quiet_below (by kernel_rfl) (by kernel_rfl) ?_
  iterate 16 (go_big_quiet_step (fail))
  refine wpQuiet_nil ?_
  rintro w6 hw
  have HK6 := Lib.hid (show Kept Nil w w6 by obtain ⟨p, rfl⟩ := hw; exact kept_grown w p)
  have HX6 := Lib.hid (HX.out.kept HK6.out (fun _ _ hf => hf))
  have HY6 := Lib.hid (HY.out.kept HK6.out (fun _ _ hf => hf))
  clear hw tx1 ty1 tx2 ty2 sx1 sy1 sx2 sy2 HX HY
  have tx3 := fun dr os => ((BX3.out.kept HK6.out (fun _ _ hf => hf)).kept (kept_grown' w6 dr os) (fun _ _ hf => hf)).text (P := Tryd.prog) Tryd.underlying25 Tryd.underlying5 Tryd.underlying9
  have ty3 := fun dr os => ((BY3.out.kept HK6.out (fun _ _ hf => hf)).kept (kept_grown' w6 dr os) (fun _ _ hf => hf)).text (P := Tryd.prog) Tryd.underlying25 Tryd.underlying5 Tryd.underlying9
  rcases HS.out with hs | ⟨hs1, hs2⟩
  · rw [← hs] at ty3
    obtain ⟨X3, hX3⟩ : ∃ z : ByteArray, ⟨((x.drop 10).take (12 - 10)).toArray⟩ = z := ⟨_, rfl⟩
    rw [hX3] at tx3
    rw [show (⟨((x.drop 10).take 2).toArray⟩ : ByteArray) = X3 from hX3] at ty3
    clear hX3 hs hsz
    go_wp2_with (fail)
    refine wp_region_quiet_below (by kernel_rfl) (by kernel_rfl) ?_
    iterate 55 (go_big_quiet_step (fail))
    refine wpQuiet_nil ?_
    rintro w7 hw
    have HK7 := Lib.hid (HK6.out.then (show Kept Nil w6 w7 by obtain ⟨p, rfl⟩ := hw; exact kept_grown w6 p))
    clear hw
    go_wp2
    go_ret
    exact ⟨rfl, HK7.out⟩
  · obtain ⟨x10, x11⟩ := two_at hs1
    obtain ⟨y10, y11⟩ := two_at hs2
    have cx10 := fun dr os => byt_ge (HX6.out.kept (kept_grown' w6 dr os) (fun _ _ hf => hf)) 10 0 x10
    have cx11 := fun dr os => byt_ge (HX6.out.kept (kept_grown' w6 dr os) (fun _ _ hf => hf)) 11 0 x11
    have cy10 := fun dr os => byt_ge (HY6.out.kept (kept_grown' w6 dr os) (fun _ _ hf => hf)) 10 255 y10
    have cy11 := fun dr os => byt_ge (HY6.out.kept (kept_grown' w6 dr os) (fun _ _ hf => hf)) 11 255 y11
    rw [show ((x.drop 10).take (12 - 10)) = [0, 0] from hs1] at tx3
    rw [show ((y.drop 10).take (12 - 10)) = [255, 255] from hs2] at ty3
    rw [show ((0 : UInt8).toNat : Int) = 0 from rfl] at cx10 cx11
    rw [show ((255 : UInt8).toNat : Int) = 255 from rfl] at cy10 cy11
    clear hs1 hs2 x10 x11 y10 y11 hsz
    go_wp2_with (fail)
    refine wp_region_quiet_below (by kernel_rfl) (by kernel_rfl) ?_
    iterate 55 (go_big_quiet_step (fail))
    refine wpQuiet_nil ?_
    rintro w7 hw
    have HK7 := Lib.hid (HK6.out.then (show Kept Nil w6 w7 by obtain ⟨p, rfl⟩ := hw; exact kept_grown w6 p))
    clear hw
    go_wp2
    go_ret
    exact ⟨rfl, HK7.out⟩
end Go.Proofs.YtflhbidmjlfjkaaDoor
namespace Go.Proofs.YtflhbidmjlfjkaaDoor
open Go.RowKit Go.Sort
set_option linter.unusedVariables false

theorem numL_lt' {l : List UInt8} {n : Nat} (h : l.length ≤ n) : numM l < 256 ^ n := Nat.lt_of_lt_of_le (numM_lt l) (Nat.pow_le_pow_right (by decide) h)
theorem hdM_ok (l : List UInt8) : (hdM l).ok := ⟨numL_lt' (n := 2) (by simp; omega), by unfold hdM; simp only; omega, numL_lt' (n := 4) (by simp; omega), numL_lt' (n := 4) (by simp; omega)⟩
/-- What a reader tells: nothing, or what is there. -/
theorem read_cases (l : List UInt8) (wh : Bool) : ((readHM l wh).2.2 ≠ 0 ∧ (readHM l wh).1 = Hd.zero ∧ (readHM l wh).2.1 = []) ∨ ((readHM l wh).2.2 = 0 ∧ (readHM l wh).1.ok ∧ (readHM l wh).1.x.length ≤ 60 ∧ (readHM l wh).2.1.length ≤ l.length) := by
  have h60 : (hdM l).x.length ≤ 60 := by
    unfold hdM hlenM
    simp only [List.length_drop, List.length_take]
    omega
  unfold readHM
  split
  · exact .inl ⟨by simp, rfl, rfl⟩
  split
  · exact .inl ⟨by simp, rfl, rfl⟩
  split
  · exact .inl ⟨by simp, rfl, rfl⟩
  split
  · exact .inl ⟨by simp, rfl, rfl⟩
  split
  · exact .inl ⟨by simp, rfl, rfl⟩
  split
  · exact .inl ⟨by simp, rfl, rfl⟩
  split
  · split
    · exact .inl ⟨by simp, rfl, rfl⟩
    · exact .inr ⟨rfl, hdM_ok l, h60, by simp only [List.length_drop, List.length_take]; omega⟩
  split
  · exact .inl ⟨by simp, rfl, rfl⟩
  · exact .inr ⟨rfl, hdM_ok l, h60, by simp only [List.length_drop]; omega⟩
end Go.Proofs.YtflhbidmjlfjkaaDoor
