/- tollref07: contracts of lay, TcpBytes, UdpBytes. -/
import Derived.Test.YthjbabkmjmfmjaaDoorMg6
import Derived.Test.YthjbabkmjmfmjaaDoorMg7
import Derived.Test.YthjbabkmjmfmjaaDoorMg16
import Derived.Deep.DeepCutAuto
namespace Go.Proofs.YthjbabkmjmfmjaaDoor
open Go.RowKit Go.Sort
set_option linter.unusedVariables false

theorem made_nil (W : World) : Made W W (.slice none 0 0) [] := ⟨World.ownsRow_nil _ _ _ _, Kept.refl _ _⟩
/-- What an append leaves. -/
theorem made_app {W u u1 u2 : World} {v v' : Value} {L l : List UInt8} {n m : Nat} (h : Made W u v L) (h1 : Kept Nil u u1) (ho : u2.ownsRow W.heap.size 5 1 v' (n + m) (bys L ++ bys l)) (hg : u1.grownBy u2 v.ownBlock) (hn : L.length = n) (hm : l.length = m) : Made W u2 v' (L ++ l) := by
  subst hn hm
  refine ⟨by rw [List.length_append, bys_app]; exact ho, (h.2.then h1).grown hg (fun k hk hl => ?_)⟩
  have := (h.1.lt k hk).1
  omega
theorem be4_split (x : Nat) : beM 2 (x / 65536) ++ beM 2 (x % 65536) = beM 4 x := by
  simp only [beM, show List.range 2 = [0, 1] from rfl, show List.range 4 = [0, 1, 2, 3] from rfl, List.map_cons, List.map_nil, List.cons_append, List.nil_append]
  have e : ∀ a b : Nat, a % 256 = b % 256 → UInt8.ofNat a = UInt8.ofNat b := fun a b h => UInt8.toNat_inj.1 (by rw [UInt8.toNat_ofNat', UInt8.toNat_ofNat']; exact h)
  congr 1
  · apply e; simp; omega
  congr 1
  · apply e; simp
  congr 1
  · apply e; simp; omega
  congr 1
  · apply e; simp
set_option maxRecDepth 100000 in
set_option maxHeartbeats 4000000 in
theorem qlay_yes (W : World) (v : Value) (L : List UInt8) (x : Nat) (u : World) (h : Made W u v L) (hx : x < 65536) (hL : L.length ≤ 100000) : Calls Tryd.prog 57 #[v, .int .i64 (x : Int)] u fun e u' => ∃ v', e = .returned v' ∧ Made W u' v' (L ++ beM 2 x) := by
  obtain ⟨i0, hi, hz0, hz1, hz2⟩ := info_parts Tryd.infb
  have w1 : IntKind.wrap .u8 ((x : Int) / 256) = (((UInt8.ofNat (x / 256)).toNat : Nat) : Int) := by rw [IntWalk.u8_in _ (by omega), UInt8.toNat_ofNat']; omega
  have w2 : IntKind.wrap .u8 ((x : Int) % 256) = (((UInt8.ofNat x).toNat : Nat) : Int) := by rw [IntWalk.u8_in _ (by omega), UInt8.toNat_ofNat']; omega
  have w1' : (x : Int) / 256 = (((UInt8.ofNat (x / 256)).toNat : Nat) : Int) := by rw [UInt8.toNat_ofNat']; omega
  have w2' : (x : Int) % 256 = (((UInt8.ofNat x).toNat : Nat) : Int) := by rw [UInt8.toNat_ofNat']; omega
  have HE := Lib.hid (show beM 2 x = [UInt8.ofNat (x / 256), UInt8.ofNat x] from beM_two x)
  obtain ⟨a, ha⟩ : ∃ a, UInt8.ofNat (x / 256) = a := ⟨_, rfl⟩
  obtain ⟨b, hb⟩ : ∃ b, UInt8.ofNat x = b := ⟨_, rfl⟩
  rw [ha] at w1 w1' HE
  rw [hb] at w2 w2' HE
  clear ha hb
  have HB := Lib.hid (Byt.lit u [a, b] 5 (by simp))
  have hk := (Kept.refl Nil u).alloc (.cells (bys [a, b]).toArray 5)
  have HO := Lib.hid (own_kept h.1 hk (fun _ _ hf => hf))
  have HS := Lib.hid h.2.size
  have HM := Lib.hid h
  clear h
  go_enter Tryd.func57, Tryd.ntmps57
  go_wp2_with (at_builtin; refine wpList_any rfl _ _ 22 rfl W.heap.size 5 i0 (.int .u8 0) Tryd.underlying22 hi hz0 hz1 hz2 rfl v L.length (bys L) rfl HO.out (some ⟨u.heap.size, 0, none⟩) 2 2 [a, b] rfl HB.out (by omega) (by have := HS.out; simp; omega) ?_; intro v' w2 hown' hgrow hob)
  have HF := Lib.hid (made_app HM.out hk hown' hgrow rfl rfl)
  clear hown' hgrow hob hk HO HB HM
  go_wp2
  go_ret
  rw [HE.out]
  exact ⟨v', rfl, HF.out⟩
end Go.Proofs.YthjbabkmjmfmjaaDoor
