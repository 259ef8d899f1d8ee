/- Texts that belong together, one behind the other: FrameA, Num. Conditions: those of each. -/
import Derived.Test.YthjbabkmjmfmjaaDoorMg0
/- Arrays of bytes as arguments: from what is read to plain data. Nothing of the program is named here. -/
namespace Go.Proofs.YthjbabkmjmfmjaaDoor
open Go.RowKit Go.ChangeShapes Go.WideShapes

section
variable {H : Type} {enc : TypeId × Value → H} {P : Program} {w : World} {base : Nat} {spare : Nat → Bool} {held : Bool} {fuel : Nat} {t e : TypeId} {x : DataW H × List MemPlace}

theorem rd_arr (n : Nat) (ht : P.underlying t = some (.array n e)) (he : P.underlying e = some (.int .u8)) (hc : P.cellsOf e = 1) (hn : P.cellsOf t = n) {cs : List Value} (h : DataW.trod enc P w base spare held fuel t cs = some x) :
    ∃ l : List UInt8, l.length = n ∧ cs = bys l := by
  obtain ⟨xs, m, _, _, hl, hxs, hel⟩ := DataW.trod_array ht h
  rw [hc] at hel
  have : ∀ i, i < n → ∃ u : UInt8, cs[i]? = some (.int .u8 (u.toNat : Int)) := by
    intro i hi
    have h1 := hel i hi
    rw [List.getElem?_eq_getElem (by omega), Nat.mul_one] at h1
    have hci : i < cs.length := by omega
    have hd : (cs.drop i).take 1 = [cs[i]] := by
      rw [List.drop_eq_getElem_cons hci]
      rfl
    rw [hd] at h1
    obtain ⟨z, hz, _, hw⟩ := DataW.trod_int he h1
    have hb := wfu8 z hw
    refine ⟨UInt8.ofNat z.toNat, ?_⟩
    rw [List.getElem?_eq_getElem hci]
    simp at hz
    rw [hz]
    have : ((UInt8.ofNat z.toNat).toNat : Int) = z := by
      rw [UInt8.toNat_ofNat']
      omega
    rw [this]
  obtain ⟨l, hll, hp⟩ := pick n _ this
  refine ⟨l, hll, ?_⟩
  apply List.ext_getElem?
  intro i
  by_cases hi : i < n
  · rw [hp i (by omega)]
    simp [bys, show i < l.length by omega]
  · rw [List.getElem?_eq_none (by omega), List.getElem?_eq_none (by rw [bys_len]; omega)]

theorem open_arr (n : Nat) (ht : P.underlying t = some (.array n e)) (he : P.underlying e = some (.int .u8)) (hc : P.cellsOf e = 1) (hn : P.cellsOf t = n) {r : Reach} {b : Nat} {v : Value} {d : DataW H} {ps : List MemPlace}
    (hv : Value.okWide P w r b t v) (h : DataW.Trod enc P w base spare held t v d ps) : ∃ l : List UInt8, l.length = n ∧ v = .agg (bys l).toArray := by
  unfold Value.okWide at hv
  rw [ht] at hv
  obtain ⟨cs, rfl, _, _⟩ := hv
  obtain ⟨fuel, hf⟩ := h
  obtain ⟨l, hl, hcs⟩ := rd_arr n ht he hc hn hf
  refine ⟨l, hl, ?_⟩
  have : cs.toList = bys l := hcs
  rw [← this]
end
end Go.Proofs.YthjbabkmjmfmjaaDoor
/- Numbers and their bytes, in plain words. Nothing of the program is named here. -/
namespace Go.Proofs.YthjbabkmjmfmjaaDoor
set_option linter.unusedVariables false

/-- A number out of bytes, the highest first. -/
def numM (l : List UInt8) : Nat := l.foldl (fun a b => a * 256 + b.toNat) 0
theorem numM_snoc (l : List UInt8) (b : UInt8) : numM (l ++ [b]) = numM l * 256 + b.toNat := by simp [numM]
theorem foldn_lt (l : List UInt8) (a : Nat) : l.foldl (fun a b => a * 256 + b.toNat) a < (a + 1) * 256 ^ l.length := by
  induction l generalizing a with
  | nil => simp
  | cons b l ih =>
    have h1 := ih (a * 256 + b.toNat)
    have h2 := b.toNat_lt
    have h3 : (a * 256 + b.toNat + 1) * 256 ^ l.length ≤ (a + 1) * 256 * 256 ^ l.length := Nat.mul_le_mul_right _ (by omega)
    simp only [List.foldl_cons, List.length_cons, Nat.pow_succ]
    rw [Nat.mul_comm (256 ^ l.length) 256, ← Nat.mul_assoc]
    omega
theorem numM_lt (l : List UInt8) : numM l < 256 ^ l.length := by have := foldn_lt l 0; simpa [numM] using this
theorem six_of (l : List UInt8) (h : l.length = 6) : ∃ a b c d e f, l = [a, b, c, d, e, f] := by
  match l, h with
  | [a, b, c, d, e, f], _ => exact ⟨a, b, c, d, e, f, rfl⟩
/-- A number's bytes, W of them, the highest first. -/
def beM (W x : Nat) : List UInt8 := (List.range W).map fun j => UInt8.ofNat (x / 2 ^ (8 * (W - 1 - j)))
theorem beM_len (W x : Nat) : (beM W x).length = W := by simp [beM]
def beAll (W : Nat) (xs : List Nat) : List UInt8 := (xs.map (beM W)).flatten
theorem beAll_snoc (W : Nat) (xs : List Nat) (k : Nat) (h : k < xs.length) : beAll W (xs.take (k + 1)) = beAll W (xs.take k) ++ beM W xs[k] := by
  rw [List.take_succ_eq_append_getElem h]
  simp only [beAll, List.map_append, List.flatten_append, List.map_cons, List.map_nil, List.flatten_cons, List.flatten_nil, List.append_nil]
theorem beAll_len (W : Nat) (xs : List Nat) : (beAll W xs).length = xs.length * W := by
  induction xs with
  | nil => simp [beAll]
  | cons x xs ih => simp only [beAll, List.map_cons, List.flatten_cons, List.length_append, beM_len, List.length_cons] at ih ⊢; rw [ih, Nat.add_mul]; omega
theorem bys_set (l : List UInt8) (i : Nat) (b : UInt8) : (bys l).set i (.int .u8 (b.toNat : Int)) = bys (l.set i b) := by simp [bys, List.map_set]
end Go.Proofs.YthjbabkmjmfmjaaDoor
