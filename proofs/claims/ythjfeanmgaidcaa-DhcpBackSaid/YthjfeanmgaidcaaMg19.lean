/- Texts that belong together, one behind the other: DhBm, FrameA. Conditions: those of each. -/
import Derived.Test.YthjfeanmgaidcaaDhBr
import Derived.Test.YthjfeanmgaidcaaMg10
import Derived.Test.YthjfeanmgaidcaaMg0
/- tolllaw09: what brought leaves is a message that may be. -/
namespace Go.Proofs.Ythjfeanmgaidcaa
open Go.RowKit Go.Sort
set_option linter.unusedVariables false

theorem nat_rem (c m : UInt8) (hm : m.toNat = 254 ∨ m.toNat = 2) : (1 + c % m).toNat = 1 + c.toNat % m.toNat := by
  have h := c.toNat_lt
  rw [UInt8.toNat_add, UInt8.toNat_mod]
  have : c.toNat % m.toNat < 254 := by rcases hm with h | h <;> rw [h] <;> omega
  exact Nat.mod_eq_of_lt (by show 1 + _ < 256; omega)
theorem brO_ok (o : Opn) : okO (brO o) = true := by
  have h := nat_rem o.1 254 (.inl rfl)
  have h2 : o.1.toNat % (254 : UInt8).toNat < 254 := Nat.mod_lt _ (by decide)
  unfold okO brO
  simp only [Bool.and_eq_true, decide_eq_true_eq]
  refine ⟨⟨fun e => ?_, fun e => ?_⟩, ?_⟩
  · rw [e] at h; have h0 : (0 : UInt8).toNat = 0 := rfl; omega
  · rw [e] at h; have h0 : (255 : UInt8).toNat = 255 := rfl; omega
  · rw [List.length_take]; omega
theorem brD_may (f : Dh) : mayD (brD f) = true := by
  unfold mayD
  simp only [Bool.and_eq_true, decide_eq_true_eq, List.all_eq_true]
  refine ⟨?_, fun o ho => ?_⟩
  · have h := nat_rem f.op 2 (.inr rfl)
    have h2 : f.op.toNat % (2 : UInt8).toNat < 2 := Nat.mod_lt _ (by decide)
    show 1 + f.op % 2 = 1 ∨ 1 + f.op % 2 = 2
    rcases Nat.eq_zero_or_pos (f.op.toNat % (2 : UInt8).toNat) with h0 | h0
    · exact .inl (UInt8.toNat_inj.1 (by rw [h]; show 1 + _ = 1; omega))
    · exact .inr (UInt8.toNat_inj.1 (by rw [h]; show 1 + _ = 2; omega))
  · obtain ⟨x, hx, rfl⟩ := List.mem_map.1 ho
    exact brO_ok x
end Go.Proofs.Ythjfeanmgaidcaa
/- Arrays of bytes as arguments: from what is read to plain data. Nothing of the program is named here. -/
namespace Go.Proofs.Ythjfeanmgaidcaa
open Go.RowKit Go.ChangeShapes Go.WideShapes

section
variable {H : Type} {enc : TypeId × Value → H} {P : Program} {w : World} {base : Nat} {spare : Nat → Bool} {held : Bool} {fuel : Nat} {t e : TypeId} {x : DataW H × List MemPlace}

theorem rd_arr (n : Nat) (ht : P.underlying t = some (.array n e)) (he : P.underlying e = some (.int .u8)) (hc : P.cellsOf e = 1) (hn : P.cellsOf t = n) {cs : List Value} (h : DataW.trod enc P w base spare held fuel t cs = some x) :
    ∃ l : List UInt8, l.length = n ∧ cs = bys l := by
  obtain ⟨xs, m, _, _, hl, hxs, hel⟩ := DataW.trod_array ht h
  rw [hc] at hel
  have : ∀ i, i < n → ∃ u : UInt8, cs[i]? = some (.int .u8 (u.toNat : Int)) := by
    intro i hi
    have h1 := hel i hi
    rw [List.getElem?_eq_getElem (by omega), Nat.mul_one] at h1
    have hci : i < cs.length := by omega
    have hd : (cs.drop i).take 1 = [cs[i]] := by
      rw [List.drop_eq_getElem_cons hci]
      rfl
    rw [hd] at h1
    obtain ⟨z, hz, _, hw⟩ := DataW.trod_int he h1
    have hb := wfu8 z hw
    refine ⟨UInt8.ofNat z.toNat, ?_⟩
    rw [List.getElem?_eq_getElem hci]
    simp at hz
    rw [hz]
    have : ((UInt8.ofNat z.toNat).toNat : Int) = z := by
      rw [UInt8.toNat_ofNat']
      omega
    rw [this]
  obtain ⟨l, hll, hp⟩ := pick n _ this
  refine ⟨l, hll, ?_⟩
  apply List.ext_getElem?
  intro i
  by_cases hi : i < n
  · rw [hp i (by omega)]
    simp [bys, show i < l.length by omega]
  · rw [List.getElem?_eq_none (by omega), List.getElem?_eq_none (by rw [bys_len]; omega)]

theorem open_arr (n : Nat) (ht : P.underlying t = some (.array n e)) (he : P.underlying e = some (.int .u8)) (hc : P.cellsOf e = 1) (hn : P.cellsOf t = n) {r : Reach} {b : Nat} {v : Value} {d : DataW H} {ps : List MemPlace}
    (hv : Value.okWide P w r b t v) (h : DataW.Trod enc P w base spare held t v d ps) : ∃ l : List UInt8, l.length = n ∧ v = .agg (bys l).toArray := by
  unfold Value.okWide at hv
  rw [ht] at hv
  obtain ⟨cs, rfl, _, _⟩ := hv
  obtain ⟨fuel, hf⟩ := h
  obtain ⟨l, hl, hcs⟩ := rd_arr n ht he hc hn hf
  refine ⟨l, hl, ?_⟩
  have : cs.toList = bys l := hcs
  rw [← this]
end
end Go.Proofs.Ythjfeanmgaidcaa
