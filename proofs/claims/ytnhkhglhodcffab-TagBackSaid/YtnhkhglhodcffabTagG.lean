/- tolllaw03: the examples (wakes), brought. -/
import Derived.Test.YtnhkhglhodcffabTagF
namespace Go.Proofs.Ytnhkhglhodcffab
open Go.RowKit Go.Sort
set_option linter.unusedVariables false

theorem byt_lit (w : World) (l : List UInt8) (t : TypeId) (cs : Array Value) (hcs : cs = (bys l).toArray) (n : Nat) (hn : l.length = n) (b : Nat) (hb : b = w.heap.size) (h : l.length ≤ 9223372036854775807) : Byt (w.alloc (.cells cs t)) (some ⟨b, 0, Option.none⟩) n n l := by
  subst hcs hn hb
  exact Byt.lit w l t h
theorem byt_own {w w' : World} {v : Value} {l : List UInt8} (h : Made w w' v l) : ∃ A c, v = .slice A l.length c ∧ Byt w' A l.length c l ∧ ∀ i, Lies A l.length i → w.heap.size ≤ i := Byt.of_own h.1

def exR : List UInt8 := [136, 168, 0, 5, 129, 0, 0, 7, 129, 0]
theorem exR_read : readM exR = ([⟨34984, 0, false, 5⟩, ⟨33024, 0, false, 7⟩], [129, 0], 0) := by decide +kernel
theorem exP_push : pushM [⟨34984, 0, false, 1⟩] ⟨34984, 0, false, 2⟩ = ([], 1) := by decide +kernel
theorem exB_bytes : bytesM [⟨33024, 5, true, 100⟩] = [129, 0, 176, 100] := by decide +kernel

set_option maxHeartbeats 2000000 in
theorem wakes_yes (w : World) : Calls Try.prog 12 #[] w fun e w' => e = .returned (.bool true) ∧ Kept Nil w w' := by
  have hok1 : (⟨33024, 5, true, 100⟩ : Tg).ok := ⟨by decide, by decide, by decide⟩
  have hok2 : (⟨34984, 0, false, 2⟩ : Tg).ok := ⟨by decide, by decide, by decide⟩
  have hok3 : (⟨34984, 0, false, 1⟩ : Tg).ok := ⟨by decide, by decide, by decide⟩
  have hb := Blo.new w 38 #[.int .u16 33024, .int .u8 5, .bool true, .int .u16 100]
  have hl := byt_lit (w.alloc (.cells #[.int .u16 33024, .int .u8 5, .bool true, .int .u16 100] 38)) exR 5 #[.int .u8 136, .int .u8 168, .int .u8 0, .int .u8 5, .int .u8 129, .int .u8 0, .int .u8 0, .int .u8 7, .int .u8 129, .int .u8 0] rfl 10 rfl (w.heap.size + 1) (by simp) (by decide)
  have hb' := hb.alloc (.cells #[.int .u8 136, .int .u8 168, .int .u8 0, .int .u8 5, .int .u8 129, .int .u8 0, .int .u8 0, .int .u8 7, .int .u8 129, .int .u8 0] 5)
  have hk := ((Kept.refl Nil w).alloc (.cells #[.int .u16 33024, .int .u8 5, .bool true, .int .u16 100] 38)).alloc (.cells #[.int .u8 136, .int .u8 168, .int .u8 0, .int .u8 5, .int .u8 129, .int .u8 0, .int .u8 0, .int .u8 7, .int .u8 129, .int .u8 0] 5)
  have HB := Lib.hid hb'
  have HL := Lib.hid hl
  have HK := Lib.hid hk
  clear hb hl hb' hk
  go_enter Try.func12, Try.ntmps12
  go_wp2_with fail
  refine (read_yes _ 10 10 exR _ HL.out (by decide)).mono ?_
  rintro e w1 ⟨v1, v2, rfl, hm⟩
  rw [exR_read] at hm ⊢
  obtain ⟨A1, c1, rfl, ht1, hi1⟩ := Tags.of_own hm.tags hm.ok
  obtain ⟨A2, c2, rfl, hy2, hi2⟩ := Byt.of_own hm.rest
  have HB1 := Lib.hid (HB.out.kept hm.kept (fun hf => hf))
  have HK1 := Lib.hid (HK.out.then hm.kept)
  have HT1 := Lib.hid ht1
  have HY2 := Lib.hid hy2
  clear hm ht1 hy2 hi1 hi2
  have hpl := Rws.lit (s := 4) w1 ([⟨34984, 0, false, 1⟩].map tgc) 38 (tgc_len _) (by simp) #[.int .u16 34984, .int .u8 0, .bool false, .int .u16 1] rfl 1 rfl w1.heap.size rfl
  have HPL := Lib.hid hpl
  have HK2 := Lib.hid (HK1.out.alloc (.cells #[.int .u16 34984, .int .u8 0, .bool false, .int .u16 1] 38))
  clear hpl
  go_wp2_with fail
  refine (push_yes _ 1 1 [⟨34984, 0, false, 1⟩] ⟨34984, 0, false, 2⟩ _ ⟨HPL.out, by simpa using hok3⟩ hok2 (by decide)).mono ?_
  rintro e w2 ⟨v3, rfl, hm⟩
  rw [exP_push] at hm ⊢
  have HB2 := Lib.hid ((HB1.out.alloc (.cells #[.int .u16 34984, .int .u8 0, .bool false, .int .u16 1] 38)).kept hm.2 (fun hf => hf))
  have HK3 := Lib.hid (HK2.out.then hm.2)
  have hkk := ((Kept.refl Nil w1).alloc (.cells #[.int .u16 34984, .int .u8 0, .bool false, .int .u16 1] 38)).then hm.2
  have HT2 := Lib.hid (HT1.out.kept hkk (fun _ _ hf => hf))
  have HY3 := Lib.hid (HY2.out.kept hkk (fun _ _ hf => hf))
  have c0 := HB2.out.cell 0
  have c1 := HB2.out.cell 1
  have c2 := HB2.out.cell 2
  have c3 := HB2.out.cell 3
  simp at c0 c1 c2 c3
  clear hm hkk
  go_wp2_with fail
  refine (tbytes_yes ⟨33024, 5, true, 100⟩ hok1 _).mono ?_
  rintro e w3 ⟨v4, rfl, hm⟩
  rw [exB_bytes] at hm
  obtain ⟨A4, c4, rfl, hy4, _⟩ := byt_own hm
  have hk4 := hm.2.alloc (.cells #[.int .u8 129, .int .u8 0, .int .u8 176, .int .u8 100] 5)
  have HY4 := Lib.hid (hy4.kept ((Kept.refl Nil w3).alloc (.cells #[.int .u8 129, .int .u8 0, .int .u8 176, .int .u8 100] 5)) (fun _ _ hf => hf))
  have HL4 := Lib.hid (byt_lit w3 [129, 0, 176, 100] 5 #[.int .u8 129, .int .u8 0, .int .u8 176, .int .u8 100] rfl 4 rfl w3.heap.size rfl (by decide))
  have ht5 := HT2.out.kept hk4 (fun _ _ hf => hf)
  have hy5 := HY3.out.kept hk4 (fun _ _ hf => hf)
  have HK5 := Lib.hid (HK3.out.then hk4)
  have HT5 := Lib.hid ht5
  have HY5 := Lib.hid hy5
  clear hm hy4 hk4 ht5 hy5 c0 c1 c2 c3
  go_wp2_with fail
  refine (equal _ _ _ _ _ _ _ _ _ HY4.out HL4.out).mono ?_
  rintro e w4 ⟨rfl, rfl⟩
  obtain ⟨b1, o1, rfl, p0, p1, p2, p3⟩ := HT5.out.at (i := 0) (by decide)
  obtain ⟨p4, p5, p6, p7⟩ := HT5.out.cells (i := 1) (by decide)
  simp at p0 p1 p2 p3 p4 p5 p6 p7
  have HB5 := Lib.hid (byt_lit (w3.alloc (.cells #[.int .u8 129, .int .u8 0, .int .u8 176, .int .u8 100] 5)) [129, 0] 5 #[.int .u8 129, .int .u8 0] rfl 2 rfl (w3.heap.size + 1) (by simp) (by decide))
  have HY6 := Lib.hid (HY5.out.kept ((Kept.refl Nil (w3.alloc (.cells #[.int .u8 129, .int .u8 0, .int .u8 176, .int .u8 100] 5))).alloc (.cells #[.int .u8 129, .int .u8 0] 5)) (fun _ _ hf => hf))
  go_wp2_with fail
  refine (equal _ _ _ _ _ _ _ _ _ HY6.out HB5.out).mono ?_
  rintro e w4 ⟨rfl, rfl⟩
  go_wp2
  go_ret
  exact ⟨rfl, HK5.out.alloc _⟩

/-- A tag that may be, of any. -/
def broM (t : Tg) : Tg := ⟨if t.k % 2 = 0 then 34984 else 33024, t.p % 8, t.d, t.n % 4096⟩
theorem broM_ok (t : Tg) : (broM t).ok := ⟨by unfold broM; simp only; split <;> decide, by unfold broM; simp only; omega, by unfold broM; simp only; omega⟩
theorem broM_may (t : Tg) : mayT (broM t) = true := by
  rw [mayT_iff]
  unfold broM
  simp only
  refine ⟨?_, by omega, by omega⟩
  split
  · exact .inl rfl
  · exact .inr rfl
theorem brought_yes (t : Tg) (h : t.ok) (w : World) : Calls Try.prog 13 #[tgv t] w fun e w' => e = .returned (tgv (broM t)) ∧ Kept Nil w w' := by
  obtain ⟨k, p, d, n⟩ := t
  obtain ⟨hk, hp, hn⟩ := h
  simp only at hk hp hn
  rcases Nat.mod_two_eq_zero_or_one k with h0 | h0
  · have hb : ((k : Int) % 2 == 0) = true := by simp; omega
    have hr : broM ⟨k, p, d, n⟩ = ⟨34984, p % 8, d, n % 4096⟩ := by unfold broM; simp [h0]
    rw [hr]
    clear h0 hr
    unfold tgv
    go_enter Try.func13, Try.ntmps13
    go_wp2
    refine bodyPost_ret (v := .agg #[.int .u16 34984, .int .u8 ((p : Int) % 8), .bool d, .int .u16 ((n : Int) % 4096)]) (by simp [results, Try.results13, go_sem]) rfl ⟨by simp, ((Kept.refl _ _).alloc _).alloc _⟩
  · have hb : ((k : Int) % 2 == 0) = false := by simp; omega
    have hr : broM ⟨k, p, d, n⟩ = ⟨33024, p % 8, d, n % 4096⟩ := by unfold broM; simp [h0]
    rw [hr]
    clear h0 hr
    unfold tgv
    go_enter Try.func13, Try.ntmps13
    go_wp2
    refine bodyPost_ret (v := .agg #[.int .u16 33024, .int .u8 ((p : Int) % 8), .bool d, .int .u16 ((n : Int) % 4096)]) (by simp [results, Try.results13, go_sem]) rfl ⟨by simp, ((Kept.refl _ _).alloc _).alloc _⟩
end Go.Proofs.Ytnhkhglhodcffab
