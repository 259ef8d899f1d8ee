/- tolllaw04.EtherSnap: the walk. -/
import Derived.Test.YtddpdopccejmbaaEthBk
import Derived.Test.YtddpdopccejmbaaMg18
import Derived.Test.YtddpdopccejmbaaMg28
namespace Go.Proofs.Ytddpdopccejmbaa
open Go.RowKit Go.Sort
set_option linter.unusedVariables false

theorem bys_flat (l : List UInt8) : (l.map fun x => [Value.int .u8 (x.toNat : Int)]).flatten = bys l := by
  induction l with
  | nil => rfl
  | cons x l ih => simp only [List.map_cons, List.flatten_cons, ih]; rfl
theorem own_bytes {w : World} (l : List UInt8) (t : TypeId) (cs : Array Value) (hc : cs = (bys l).toArray) (n : Nat) (hn : l.length = n) (b : Nat) (hb : b = w.heap.size) (B : Nat) (hB : B ≤ w.heap.size) (h : l.length ≤ maxLen) :
    (w.alloc (.cells cs t)).ownsRow B t 1 (.slice (some ⟨b, 0, none⟩) n n) n (bys l) := by
  have := own_lit (w := w) (s := 1) (l.map fun x => [Value.int .u8 (x.toNat : Int)]) t (by intro r hr; obtain ⟨x, _, rfl⟩ := List.mem_map.1 hr; rfl) (by rw [List.length_map]; exact h) cs (by rw [bys_flat]; exact hc) n (by rw [List.length_map]; exact hn) b hb B hB
  rwa [bys_flat] at this
theorem two_cells (T : Nat) (h : T ≤ 65535) : bys (twoM T) = [.int .u8 ((T : Int) / 256), .int .u8 ((T : Int) % 256)] := by
  have e1 : (UInt8.ofNat (T / 256)).toNat = T / 256 := by rw [UInt8.toNat_ofNat']; omega
  have e2 : (UInt8.ofNat T).toNat = T % 256 := by rw [UInt8.toNat_ofNat']
  show [Value.int .u8 ((UInt8.ofNat (T / 256)).toNat : Int), Value.int .u8 ((UInt8.ofNat T).toNat : Int)] = _
  rw [e1, e2]
  simp
theorem withM_nil_len (d s b : List UInt8) : (withM d s [] b).length = d.length + s.length + b.length := by
  have e : withM d s [] b = d ++ s ++ [] ++ b := rfl
  rw [e]
  simp only [List.length_append, List.length_nil, Nat.add_zero]
theorem NewF.past {w0 w w' : World} {f : Fr} {vt vb vr : Value} {F : Nat → Prop} (h : NewF w0 w f vt vb vr) (k : Kept F w w') (hF : ∀ i, F i → i < w0.heap.size) : NewF w0 w' f vt vb vr := by
  obtain ⟨⟨A, n, c, e, ht, h1⟩, ⟨A1, n1, c1, e1, hb, h2⟩, ⟨A2, n2, c2, e2, hr, h3⟩⟩ := h
  exact ⟨⟨A, n, c, e, ht.kept k (fun i hi hf => by have := h1 i hi; have := hF i hf; omega), h1⟩, ⟨A1, n1, c1, e1, hb.kept k (fun i hi hf => by have := h2 i hi; have := hF i hf; omega), h2⟩, ⟨A2, n2, c2, e2, hr.kept k (fun i hi hf => by have := h3 i hi; have := hF i hf; omega), h3⟩⟩
theorem Kept.fresh8 {F : Nat → Prop} {a b c : World} (h : Kept Nil a b) (k : Kept F b c) (hF : ∀ i, F i → a.heap.size ≤ i) : Kept Nil a c := h.trans k (fun i hi hf => absurd hi (Nat.not_lt.2 (hF i hf)))
def dA : List UInt8 := [2, 0, 0, 0, 0, 0]
def sA : List UInt8 := [4, 0, 0, 0, 0, 0]
def snF1 (T : Nat) (b : List UInt8) : Fr := ⟨dA, sA, [], 1, (T : Int), z3, z3, b, []⟩
def snF2 (T : Nat) (b o r : List UInt8) : Fr := ⟨dA, sA, [], 3, (T : Int), snapL, o, b, r⟩
theorem snF1_ok (T : Nat) (b : List UInt8) (h : T ≤ 65535) : (snF1 T b).ok := ⟨rfl, rfl, fun _ h => (by cases h), ⟨by simp only [snF1]; omega, by simp only [snF1]; omega⟩, ⟨by simp only [snF1]; omega, by simp only [snF1]; omega⟩, rfl, rfl⟩
theorem snF2_ok (T : Nat) (b o r : List UInt8) (h : T ≤ 65535) (ho : o.length = 3) : (snF2 T b o r).ok := ⟨rfl, rfl, fun _ h => (by cases h), ⟨by simp only [snF2]; omega, by simp only [snF2]; omega⟩, ⟨by simp only [snF2]; omega, by simp only [snF2]; omega⟩, rfl, ho⟩
theorem sn_get1 (T : Nat) (b : List UInt8) (h1 : 1536 ≤ T) (h2 : T ≤ 65535) (n1 : T ≠ 33024) (n2 : T ≠ 34984) (hb : b.length ≤ 1492) : ∃ z, getM (withM dA sA [] (twoM T ++ b)) = (snF1 T b, z, 0) := by
  have hc : carryM (snF1 T b) = true := by
    have hs : standM T (0 : Int) = false := by simp [standM, n1, n2]
    unfold carryM
    rw [if_pos (show (snF1 T b).k = 1 from rfl)]
    show (decide (1536 ≤ (T : Int)) && decide ((T : Int) ≤ 65535) && !standM ((T : Int).toNat) (0 : Int) && decide (z3 = z3) && decide (z3 = z3) && decide (([] : List UInt8).length = 0)) = true
    rw [Int.toNat_natCast, hs, decide_eq_true (show (1536 : Int) ≤ (T : Int) by omega), decide_eq_true (show (T : Int) ≤ 65535 by omega)]
    rfl
  have he : headM (snF1 T b) = twoM T := by simp [headM, snF1]
  have := get_with (snF1 T b) (snF1_ok T b h2) dA sA [] rfl rfl (by decide) hc (by rw [List.append_assoc]; exact head_next (snF1 T b) hc _) (by rw [he]; simp [dA, sA, bytTs, twoM, snF1]; omega)
  rw [he] at this
  refine ⟨bytTs [] ++ (twoM T ++ (snF1 T b).b ++ (snF1 T b).r), ?_⟩
  have e : withM dA sA [] (twoM T ++ b) = dA ++ sA ++ bytTs [] ++ (twoM T ++ (snF1 T b).b ++ (snF1 T b).r) := by
    show dA ++ sA ++ bytesM [] ++ (twoM T ++ b) = dA ++ sA ++ bytTs [] ++ (twoM T ++ b ++ [])
    rw [List.append_nil]
    rfl
  rw [e]
  exact this
theorem sn_get2 (T : Nat) (b o r : List UInt8) (h2 : T ≤ 65535) (hb : b.length ≤ 1492) (hr : r.length ≤ 60) (ho : o.length = 3) : ∃ z, getM (withM dA sA [] (twoM (8 + b.length) ++ snapL ++ o ++ twoM T ++ b ++ r)) = (snF2 T b o r, z, 0) := by
  have hc : carryM (snF2 T b o r) = true := by
    unfold carryM
    rw [if_neg (show ¬ (snF2 T b o r).k = 1 by simp [snF2]), if_neg (show ¬ (snF2 T b o r).k = 2 by simp [snF2]), if_pos (show (snF2 T b o r).k = 3 from rfl)]
    show (decide (0 ≤ (T : Int)) && decide ((T : Int) ≤ 65535) && decide (snapL = snapL) && decide (8 + b.length ≤ 1500)) = true
    rw [decide_eq_true (show (0 : Int) ≤ (T : Int) by omega), decide_eq_true (show (T : Int) ≤ 65535 by omega), decide_eq_true (show 8 + b.length ≤ 1500 by omega)]
    rfl
  have he : headM (snF2 T b o r) = twoM (8 + b.length) ++ snapL ++ o ++ twoM T := by simp [headM, snF2]
  have := get_with (snF2 T b o r) (snF2_ok T b o r h2 ho) dA sA [] rfl rfl (by decide) hc (by rw [List.append_assoc]; exact head_next (snF2 T b o r) hc _) (by rw [he]; simp [dA, sA, bytTs, twoM, snF2, snapL]; omega)
  rw [he] at this
  exact ⟨_, this⟩
end Go.Proofs.Ytddpdopccejmbaa
