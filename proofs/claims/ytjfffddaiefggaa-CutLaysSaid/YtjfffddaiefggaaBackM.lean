/- tolllaw01.CutBack: things as plain data, and what becomes of them when they are laid and taken. -/
import Derived.Test.YtjfffddaiefggaaPadC
import Derived.Test.YtjfffddaiefggaaFrame
namespace Go.Proofs.Ytjfffddaiefggaa
open Go.RowKit
set_option linter.unusedVariables false

/-- A wall round a goal: what is proved behind it is a declaration of its own (as_aux_lemma), and nobody looks through it. -/
structure Box (p : Prop) : Prop where
  out : p

/-- A thing, as it lies in memory. -/
structure ThD where
  kind : Nat
  v : Nat
  B : Option Addr
  bn : Nat
  bc : Nat
  b : List UInt8

structure ThOk (w : World) (t : ThD) : Prop where
  kd : t.kind < 256
  vd : t.v < 4294967296
  byt : Byt w t.B t.bn t.bc t.b

def Thgs (w : World) (A : Option Addr) (n c : Nat) (ts : List ThD) : Prop :=
  ts.length = n ∧ n ≤ c ∧ c ≤ 9223372036854775807 ∧ (∀ t ∈ ts, ThOk w t) ∧ (0 < n → ∃ b o, A = some ⟨b, o, none⟩ ∧ ∀ i (h : i < ts.length),
    w.cell? ⟨b, o + i * 3, none⟩ = some (.int .u8 (ts[i].kind : Int)) ∧ w.cell? ⟨b, o + i * 3 + 1, none⟩ = some (.int .u32 (ts[i].v : Int)) ∧ w.cell? ⟨b, o + i * 3 + 2, none⟩ = some (.slice ts[i].B ts[i].bn ts[i].bc))
theorem Thgs.kept {w w' : World} {A : Option Addr} {n c : Nat} {ts : List ThD} (h : Thgs w A n c ts) (q : Kept Nil w w') : Thgs w' A n c ts := by
  refine ⟨h.1, h.2.1, h.2.2.1, fun t ht => ?_, fun hn => ?_⟩
  · have := h.2.2.2.1 t ht
    exact ⟨this.kd, this.vd, this.byt.kept q (fun _ _ hf => hf)⟩
  · obtain ⟨b, o, rfl, hc⟩ := h.2.2.2.2 hn
    exact ⟨b, o, rfl, fun i hi => ⟨q.cell (hc i hi).1 (fun hf => hf), q.cell (hc i hi).2.1 (fun hf => hf), q.cell (hc i hi).2.2 (fun hf => hf)⟩⟩
theorem Thgs.pre {w : World} {A : Option Addr} {n c m : Nat} {ts : List ThD} (h : Thgs w A n c ts) (hm : m ≤ n) : Thgs w A m c (ts.take m) := by
  refine ⟨by simp; have := h.1; omega, Nat.le_trans hm h.2.1, h.2.2.1, fun t ht => h.2.2.2.1 t (List.mem_of_mem_take ht), fun hn => ?_⟩
  obtain ⟨b, o, rfl, hc⟩ := h.2.2.2.2 (by omega)
  refine ⟨b, o, rfl, fun i hi => ?_⟩
  have hi' : i < ts.length := by have := List.length_take_le m ts; rw [List.length_take] at hi; omega
  simp only [List.getElem_take]
  exact hc i hi'

/-- The bytes that a thing lays. -/
def macOf (v : Nat) : List UInt8 := [UInt8.ofNat v, UInt8.ofNat (v / 256), 2, 3, 4, 5]
def bytesOf (t : ThD) : List UInt8 :=
  match t.kind % 5 with
  | 0 => beAll 1 [t.v % 256]
  | 1 => beAll 2 [t.v % 65536]
  | 2 => beAll 4 [t.v]
  | 3 => macOf t.v
  | _ => t.b.take 40
def flat (ts : List ThD) : List UInt8 := (ts.map bytesOf).flatten
theorem flat_snoc (ts : List ThD) (k : Nat) (h : k < ts.length) : flat (ts.take (k + 1)) = flat (ts.take k) ++ bytesOf ts[k] := by
  rw [List.take_succ_eq_append_getElem h]
  simp only [flat, List.map_append, List.flatten_append, List.map_cons, List.map_nil, List.flatten_cons, List.flatten_nil, List.append_nil]
theorem bytesOf_len (t : ThD) : (bytesOf t).length ≤ 40 := by
  unfold bytesOf
  split
  · rw [beAll_len]; simp
  · rw [beAll_len]; simp
  · rw [beAll_len]; simp
  · simp [macOf]
  · simp; omega
theorem flat_len2 (ts : List ThD) : (flat ts).length ≤ 40 * ts.length := by
  induction ts with
  | nil => simp [flat]
  | cons t ts ih =>
    have h := bytesOf_len t
    have e : flat (t :: ts) = bytesOf t ++ flat ts := rfl
    rw [e, List.length_append, List.length_cons]
    omega

section
variable {H : Type} {enc : TypeId × Value → H} {w : World} {base : Nat} {spare : Nat → Bool} {held : Bool} {fuel : Nat} {x : DataW H × List MemPlace}
theorem rd_things {v : Value} (h : DataW.trod enc Try.prog w base spare held fuel 64 [v] = some x) : ∃ A n c ts, v = .slice A n c ∧ Thgs w A n c ts := by
  obtain ⟨A, n, c, rfl, h1, h2, h3⟩ := rd_rows 3 (by omega) Try.underlying64 (by kernel_rfl) h
  rcases Nat.eq_zero_or_pos n with h0 | h0
  · subst h0
    exact ⟨A, 0, c, [], rfl, rfl, h1, h2, by simp, fun h => absurd h (by omega)⟩
  · obtain ⟨b, o, rfl, hel⟩ := h3 h0
    have each : ∀ i, i < n → ∃ t : ThD, ThOk w t ∧ w.cell? ⟨b, o + i * 3, none⟩ = some (.int .u8 (t.kind : Int)) ∧ w.cell? ⟨b, o + i * 3 + 1, none⟩ = some (.int .u32 (t.v : Int)) ∧ w.cell? ⟨b, o + i * 3 + 2, none⟩ = some (.slice t.B t.bn t.bc) := by
      intro i hi
      obtain ⟨cs, y, fl, hl, hcell, htr⟩ := hel i hi
      match cs, hl with
      | [c0, c1, c2], _ =>
        have q0 := hcell 0 (by simp)
        have q1 := hcell 1 (by simp)
        have q2 := hcell 2 (by simp)
        simp at q0 q1 q2
        obtain ⟨n0, y0, t0⟩ := rd_field Try.underlying66 htr 0 _ rfl [c0] (by kernel_rfl)
        obtain ⟨n1, y1, t1⟩ := rd_field Try.underlying66 htr 1 _ rfl [c1] (by kernel_rfl)
        obtain ⟨n2, y2, t2⟩ := rd_field Try.underlying66 htr 2 _ rfl [c2] (by kernel_rfl)
        obtain ⟨kd, rfl, hkd⟩ := rd_nat 255 Try.underlying5 wfu8 t0
        obtain ⟨vd, rfl, hvd⟩ := rd_nat 4294967295 Try.underlying30 wfu32 t1
        obtain ⟨B, bn, bc, bl, rfl, hby⟩ := rd_bytes Try.underlying22 Try.underlying5 (by kernel_rfl) t2
        exact ⟨⟨kd, vd, B, bn, bc, bl⟩, ⟨by simp; omega, by simp; omega, hby⟩, q0, q1, q2⟩
    obtain ⟨ts, hl, hp⟩ := pick n _ each
    refine ⟨some ⟨b, o, none⟩, n, c, ts, rfl, hl, h1, h2, fun t ht => ?_, fun _ => ⟨b, o, rfl, fun i hi => (hp i hi).2⟩⟩
    obtain ⟨i, hi, rfl⟩ := List.getElem_of_mem ht
    exact (hp i hi).1
end

theorem PByte_at (B g s : Nat) (v : Value) (l : List UInt8) (x : Nat) (z : Int) (hz : z = (x : Int)) (w : World) (t : TypeId) (hs : s = w.heap.size) (h : Padd w B g v l) (hB : B ≤ w.heap.size) (hbd : l.length ≤ 1000000) (hx : x < 256 ^ 1) :
    Calls Try.prog 30 #[.pointer (some ⟨g, 0, none⟩), .slice (some ⟨s, 0, none⟩) 1 1] (w.alloc (.cells #[.int .u8 z] t)) fun e w' =>
      ∃ v', e = .returned (.pointer (some ⟨g, 0, none⟩)) ∧ Padd w' B g v' (l ++ beAll 1 [x]) ∧ Kept (foot g v) w w' ∧ Newer w.heap.size v v' := by
  subst hs hz
  exact PByte_lit B g v l [x] w t h hB (by simp; omega) (by simpa using hx)
theorem PTwo_at (B g s : Nat) (v : Value) (l : List UInt8) (x : Nat) (z : Int) (hz : z = (x : Int)) (w : World) (t : TypeId) (hs : s = w.heap.size) (h : Padd w B g v l) (hB : B ≤ w.heap.size) (hbd : l.length ≤ 1000000) (hx : x < 256 ^ 2) :
    Calls Try.prog 31 #[.pointer (some ⟨g, 0, none⟩), .slice (some ⟨s, 0, none⟩) 1 1] (w.alloc (.cells #[.int .u16 z] t)) fun e w' =>
      ∃ v', e = .returned (.pointer (some ⟨g, 0, none⟩)) ∧ Padd w' B g v' (l ++ beAll 2 [x]) ∧ Kept (foot g v) w w' ∧ Newer w.heap.size v v' := by
  subst hs hz
  exact PTwo_lit B g v l [x] w t h hB (by simp; omega) (by simpa using hx)
theorem PFour_at (B g s : Nat) (v : Value) (l : List UInt8) (x : Nat) (z : Int) (hz : z = (x : Int)) (w : World) (t : TypeId) (hs : s = w.heap.size) (h : Padd w B g v l) (hB : B ≤ w.heap.size) (hbd : l.length ≤ 1000000) (hx : x < 256 ^ 4) :
    Calls Try.prog 33 #[.pointer (some ⟨g, 0, none⟩), .slice (some ⟨s, 0, none⟩) 1 1] (w.alloc (.cells #[.int .u32 z] t)) fun e w' =>
      ∃ v', e = .returned (.pointer (some ⟨g, 0, none⟩)) ∧ Padd w' B g v' (l ++ beAll 4 [x]) ∧ Kept (foot g v) w w' ∧ Newer w.heap.size v v' := by
  subst hs hz
  exact PFour_lit B g v l [x] w t h hB (by simp; omega) (by simpa using hx)
theorem PMac_at (B g s : Nat) (v : Value) (l : List UInt8) (m : List UInt8) (hm : m.length = 6) (cs : Array Value) (hcs : cs = (bys m).toArray) (w : World) (t : TypeId) (hs : s = w.heap.size) (h : Padd w B g v l) (hB : B ≤ w.heap.size) (hbd : l.length ≤ 1000000) :
    Calls Try.prog 34 #[.pointer (some ⟨g, 0, none⟩), .slice (some ⟨s, 0, none⟩) 1 1] (w.alloc (.cells cs t)) fun e w' =>
      ∃ v', e = .returned (.pointer (some ⟨g, 0, none⟩)) ∧ Padd w' B g v' (l ++ m) ∧ Kept (foot g v) w w' ∧ Newer w.heap.size v v' := by
  subst hs hcs
  exact PMac_lit B g v l m hm w t h hB (by omega)

theorem bytesOf0 {t : ThD} (h : (t.kind : Int) % 5 = 0) : bytesOf t = beAll 1 [t.v % 256] := by
  have : t.kind % 5 = 0 := by omega
  simp [bytesOf, this]
theorem bytesOf1 {t : ThD} (h : (t.kind : Int) % 5 = 1) : bytesOf t = beAll 2 [t.v % 65536] := by
  have : t.kind % 5 = 1 := by omega
  simp [bytesOf, this]
theorem bytesOf2 {t : ThD} (h : (t.kind : Int) % 5 = 2) : bytesOf t = beAll 4 [t.v] := by
  have : t.kind % 5 = 2 := by omega
  simp [bytesOf, this]
theorem bytesOf3 {t : ThD} (h : (t.kind : Int) % 5 = 3) : bytesOf t = macOf t.v := by
  have : t.kind % 5 = 3 := by omega
  simp [bytesOf, this]
theorem bytesOf4 {t : ThD} (h : (t.kind : Int) % 5 = 4) : bytesOf t = t.b.take 40 := by
  have : t.kind % 5 = 4 := by omega
  simp [bytesOf, this]
theorem macOf_cells (v : Nat) : #[Value.int .u8 ((v : Int) % 256), .int .u8 ((v : Int) / 256 % 256), .int .u8 2, .int .u8 3, .int .u8 4, .int .u8 5] = (bys (macOf v)).toArray := by
  have e1 : ((UInt8.ofNat v).toNat : Int) = (v : Int) % 256 := by rw [UInt8.toNat_ofNat']; omega
  have e2 : ((UInt8.ofNat (v / 256)).toNat : Int) = (v : Int) / 256 % 256 := by rw [UInt8.toNat_ofNat']; omega
  unfold bys macOf
  simp only [List.map_cons, List.map_nil, e1, e2]
  rfl

theorem takeM_ok' (l : List UInt8) (k m : Nat) (x : Int) (hx : x = (m : Int)) (h : k + m ≤ l.length) : takeM ⟨l, k, 0⟩ x = ((l.take (k + m)).drop k, ⟨l, k + m, 0⟩) := by
  subst hx
  unfold takeM
  rw [if_neg (by simp), if_neg (by omega), if_neg (by simp; omega)]
  simp
theorem flat_split (ts : List ThD) (k : Nat) (h : k < ts.length) : ∃ rest, flat ts = flat (ts.take k) ++ bytesOf ts[k] ++ rest := by
  refine ⟨flat (ts.drop (k + 1)), ?_⟩
  rw [← flat_snoc ts k h]
  have := congrArg flat (List.take_append_drop (k + 1) ts)
  simp only [flat, List.map_append, List.flatten_append] at this ⊢
  exact this.symm
/-- What is taken at a thing's place. -/
theorem take_thing (ts : List ThD) (k L : Nat) (h : k < ts.length) (hL : L ≤ (flat ts).length) (x : Int) (hx : x = ((bytesOf ts[k]).length : Int)) :
    (flat (ts.take k)).length + (bytesOf ts[k]).length ≤ L → takeM ⟨(flat ts).take L, (flat (ts.take k)).length, 0⟩ x = (bytesOf ts[k], ⟨(flat ts).take L, (flat (ts.take (k + 1))).length, 0⟩) := by
  intro hle
  subst hx
  have hlen : ((flat ts).take L).length = L := by rw [List.length_take]; omega
  rw [takeM_ok' _ _ (bytesOf ts[k]).length _ rfl (by omega), flat_snoc ts k h, List.length_append]
  obtain ⟨rest, hr⟩ := flat_split ts k h
  have e : (List.take ((flat (ts.take k)).length + (bytesOf ts[k]).length) ((flat ts).take L)).drop (flat (ts.take k)).length = bytesOf ts[k] := by
    rw [List.take_take, Nat.min_eq_left hle, hr, ← List.length_append, List.take_left, List.drop_left]
  rw [e]
theorem short_thing (F : List UInt8) (p : Nat) (x : Int) (h : (F.length : Int) - p < x) (h0 : 0 ≤ x) : takeM ⟨F, p, 0⟩ x = ([], ⟨F, p, 4⟩) := by
  unfold takeM
  simp only [ne_eq, not_true_eq_false, if_false]
  rw [if_neg (by omega), if_pos h]
theorem numM1 (x : Nat) (h : x < 256) : numM (beAll 1 [x]) = x := by simp [numM, beAll, beM, List.range_succ]; omega
theorem numM2 (x : Nat) (h : x < 65536) : numM (beAll 2 [x]) = x := by simp [numM, beAll, beM, List.range_succ]; omega
theorem numM4 (x : Nat) (h : x < 4294967296) : numM (beAll 4 [x]) = x := by simp [numM, beAll, beM, List.range_succ]; omega
end Go.Proofs.Ytjfffddaiefggaa
namespace Go.Proofs.Ytjfffddaiefggaa
open Go.RowKit
theorem take_full (ts : List ThD) (k : Nat) (h : k < ts.length) (x : Int) (hx : x = ((bytesOf ts[k]).length : Int)) :
    takeM ⟨flat ts, (flat (ts.take k)).length, 0⟩ x = (bytesOf ts[k], ⟨flat ts, (flat (ts.take (k + 1))).length, 0⟩) := by
  have h1 := take_thing ts k (flat ts).length h (Nat.le_refl _) x hx
  rw [List.take_length] at h1
  apply h1
  obtain ⟨rest, hr⟩ := flat_split ts k h
  have := congrArg List.length hr
  simp only [List.length_append] at this
  omega
/-- A thing's copy, and its address, behind a call that turns the cutter alone. -/
theorem th_cells {wr w5 : World} {g : Nat} {c0 c1 c2 : Value} {cs : Array Value} {t t' : TypeId} {q : Nat} (hk : Kept (One g) (((wr.alloc (.cells #[c0, c1, c2] t)).alloc (.cells cs t')).drewN q) w5) (hg : g < wr.heap.size) :
    w5.cell? ⟨wr.heap.size, 1, none⟩ = some c1 ∧ w5.cell? ⟨wr.heap.size, 2, none⟩ = some c2 ∧ ∀ i, w5.cell? ⟨wr.heap.size + 1, i, none⟩ = cs[i]? := by
  have b1 := (((Blo.new wr t #[c0, c1, c2]).alloc (.cells cs t')).heap (w' := World.drewN _ q) rfl).kept hk (by unfold One; omega)
  have b2 := ((Blo.new (wr.alloc (.cells #[c0, c1, c2] t)) t' cs).heap (w' := World.drewN _ q) rfl).kept hk (by unfold One; simp; omega)
  rw [World.size_alloc] at b2
  exact ⟨b1.cell 1, b1.cell 2, b2.cell⟩
end Go.Proofs.Ytjfffddaiefggaa
namespace Go.Proofs.Ytjfffddaiefggaa
open Go.RowKit
/-- One byte less: so far all was there, or it has failed already. -/
def Less (ts : List ThD) (L k : Nat) (s : Cst) : Prop := s.l = (flat ts).take L ∧ ((s.er = 0 ∧ s.k = (flat (ts.take k)).length) ∨ s.er = 4)
theorem less_next (ts : List ThD) (L k : Nat) (h : k < ts.length) (hL : L ≤ (flat ts).length) (s : Cst) (hs : Less ts L k s) (x : Int) (hx : x = ((bytesOf ts[k]).length : Int)) : Less ts L (k + 1) (takeM s x).2 := by
  obtain ⟨l, p, er⟩ := s
  obtain ⟨hl, hd⟩ := hs
  simp only at hl hd
  subst hl
  rcases hd with ⟨rfl, rfl⟩ | rfl
  · by_cases hle : (flat (ts.take k)).length + (bytesOf ts[k]).length ≤ L
    · rw [take_thing ts k L h hL x hx hle]
      exact ⟨rfl, .inl ⟨rfl, rfl⟩⟩
    · have hlen : ((flat ts).take L).length = L := by rw [List.length_take]; omega
      rw [short_thing _ _ x (by rw [hlen, hx]; omega) (by omega)]
      exact ⟨rfl, .inr rfl⟩
  · have : takeM ⟨(flat ts).take L, p, 4⟩ x = ([], ⟨(flat ts).take L, p, 4⟩) := by unfold takeM; simp
    rw [this]
    exact ⟨rfl, .inr rfl⟩
end Go.Proofs.Ytjfffddaiefggaa
