/- tolllaw09.DhcpParts: the walk. -/
import Derived.Test.YtbkjobmjapbmpaaDhY
import Derived.Test.YtbkjobmjapbmpaaDhQ
import Derived.Test.YtbkjobmjapbmpaaFrameA
import Derived.Test.YtbkjobmjapbmpaaBd
import Derived.Test.YtbkjobmjapbmpaaEthT
namespace Go.Proofs.Ytbkjobmjapbmpaa
open Go.RowKit Go.Sort
set_option linter.unusedVariables false

theorem u8_of (t : Int) (ht : (Lit.int .u8 t).wf = true) : ∃ T : UInt8, t = (T.toNat : Int) := by
  have hb8 := wfu8 t ht
  obtain ⟨k, rfl⟩ := Int.eq_ofNat_of_zero_le hb8.1
  exact ⟨UInt8.ofNat k, by simp; omega⟩
theorem code_of (cd : UInt8) : ∃ C : UInt8, 1 + (cd.toNat : Int) % 253 = (C.toNat : Int) ∧ hasD C = true ∧ C ≠ 254 := by
  have h := cd.toNat_lt
  have e : (UInt8.ofNat (1 + cd.toNat % 253)).toNat = 1 + cd.toNat % 253 := by rw [UInt8.toNat_ofNat']; omega
  refine ⟨UInt8.ofNat (1 + cd.toNat % 253), by rw [e]; omega, ?_, ?_⟩
  · unfold hasD
    rw [decide_eq_true_eq]
    refine ⟨fun h0 => ?_, fun h0 => ?_⟩
    · have := congrArg UInt8.toNat h0; rw [e] at this; simp at this
    · have := congrArg UInt8.toNat h0; rw [e] at this; simp at this; omega
  · intro h0
    have := congrArg UInt8.toNat h0; rw [e] at this; simp at this; omega
theorem mod_of (at8 : UInt8) (m : Nat) (hm : m ≤ 60) : ∃ k : Nat, (wrap64 (at8.toNat : Int) = (at8.toNat : Int)) ∧ ((at8.toNat : Int).tmod ((m : Int) + 1) = (k : Int)) ∧ k ≤ m := by
  have h := at8.toNat_lt
  refine ⟨at8.toNat % (m + 1), by unfold wrap64; omega, ?_, ?_⟩
  · rw [show ((m : Int) + 1) = ((m + 1 : Nat) : Int) from rfl, ← Int.ofNat_tmod]
  · have := Nat.mod_lt at8.toNat (show 0 < m + 1 by omega)
    omega
/-- Rows that stand in one block, told as options. -/
theorem opts_rows {D : Nat → Prop} {k : IntKind} {W : World} {g : Nat} {T : TypeId} {cs : Array Value} (rs : List (List Value)) {os : List Opn} (hb : Blo W g T cs) (hc : cs = rs.flatten.toArray) (h2 : ∀ r ∈ rs, r.length = 2) (hl : rs.length = os.length) (hrow : ∀ (i : Nat) (r : List Value) (o : Opn), rs[i]? = some r → os[i]? = some o → OpR D k W r o) (hg : D g) (hN : rs.length ≤ 9223372036854775807) (n : Nat) (hn : os.length = n) : Opts D k W (some ⟨g, 0, none⟩) n n os := by
  refine ⟨hn, ⟨rs, rws_blo rs h2 hN hb hc n (by omega), hrow⟩, ?_⟩
  rintro i ⟨_, ad, e, rfl⟩
  cases e
  exact hg
theorem op_any {k : IntKind} {W : World} {A : Option Addr} {n c : Nat} {o : UInt8} {l : List UInt8} (h : Byt W A n c l) : OpR (fun _ => True) k W [.int k (o.toNat : Int), .slice A n c] (o, l) := ⟨A, n, c, rfl, h, fun _ _ => trivial⟩
theorem rows2 {k : IntKind} {W : World} {r1 r2 : List Value} {o1 o2 : Opn} {D : Nat → Prop} (h1 : OpR D k W r1 o1) (h2 : OpR D k W r2 o2) : ∀ (i : Nat) (r : List Value) (o : Opn), [r1, r2][i]? = some r → [o1, o2][i]? = some o → OpR D k W r o := by
  intro i r o hr ho
  match i with
  | 0 => simp at hr ho; subst hr ho; exact h1
  | 1 => simp at hr ho; subst hr ho; exact h2
  | i + 2 => simp at hr
theorem rows3 {k : IntKind} {W : World} {r1 r2 r3 : List Value} {o1 o2 o3 : Opn} {D : Nat → Prop} (h1 : OpR D k W r1 o1) (h2 : OpR D k W r2 o2) (h3 : OpR D k W r3 o3) : ∀ (i : Nat) (r : List Value) (o : Opn), [r1, r2, r3][i]? = some r → [o1, o2, o3][i]? = some o → OpR D k W r o := by
  intro i r o hr ho
  match i with
  | 0 => simp at hr ho; subst hr ho; exact h1
  | 1 => simp at hr ho; subst hr ho; exact h2
  | 2 => simp at hr ho; subst hr ho; exact h3
  | i + 3 => simp at hr
theorem bd_plain (A : Option Addr) (n c : Nat) (w : World) : (Instr.build 73 #[(0, .int .u8 1), (13, .slice A n c)]).run Try.prog w = .ok (dhv plainH (.slice A n c) nilv) w := by kernel_rfl
theorem bd_os (h : Dh) (hh : dns h = dns plainH ∧ h.st = zer 6 ∧ h.pd = zer 10 ∧ h.sv = zer 64 ∧ h.fi = zer 128) (A : Option Addr) (n c : Nat) (w : World) : (Instr.build 73 #[(0, .int .u8 1), (13, .slice A n c)]).run Try.prog w = .ok (dhv h (.slice A n c) nilv) w := by
  have e : dhv h (.slice A n c) nilv = dhv plainH (.slice A n c) nilv := by unfold dhv dcs; rw [hh.1, hh.2.1, hh.2.2.1, hh.2.2.2.1, hh.2.2.2.2]; rfl
  rw [e]
  exact bd_plain A n c w
theorem or4_num (x0 x1 x2 x3 : UInt8) : bits .or .u32 (bits .or .u32 (bits .or .u32 ((x0.toNat : Int) % 4294967296 * 16777216 % 4294967296) ((x1.toNat : Int) % 4294967296 * 65536 % 4294967296)) ((x2.toNat : Int) % 4294967296 * 256 % 4294967296)) ((x3.toNat : Int) % 4294967296) = (numM [x0, x1, x2, x3] : Int) := by
  have h0 := x0.toNat_lt
  have h1 := x1.toNat_lt
  have h2 := x2.toNat_lt
  have h3 := x3.toNat_lt
  rw [show (x0.toNat : Int) % 4294967296 * 16777216 % 4294967296 = ((x0.toNat * 16777216 : Nat) : Int) by omega, show (x1.toNat : Int) % 4294967296 * 65536 % 4294967296 = ((x1.toNat * 65536 : Nat) : Int) by omega, show (x2.toNat : Int) % 4294967296 * 256 % 4294967296 = ((x2.toNat * 256 : Nat) : Int) by omega, show (x3.toNat : Int) % 4294967296 = ((x3.toNat : Nat) : Int) by omega]
  rw [u32_or_nat _ _ (by omega) (by omega), nat_join 24 _ _ (by omega) (by omega), u32_or_nat _ _ (by omega) (by omega), nat_join 16 _ _ (by omega) (by omega), u32_or_nat _ _ (by omega) (by omega), nat_join 8 _ _ (by omega) (by omega)]
  simp only [numM, List.foldl_cons, List.foldl_nil]
  omega
end Go.Proofs.Ytbkjobmjapbmpaa
