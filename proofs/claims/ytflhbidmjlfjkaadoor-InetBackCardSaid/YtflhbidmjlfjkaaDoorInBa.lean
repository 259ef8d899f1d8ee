/- tolllaw06.InetBack: what the region keeps up that reads what was laid, with bytes behind. -/
import Derived.Test.YtflhbidmjlfjkaaDoorInMd
import Derived.Test.YtflhbidmjlfjkaaDoorRegX
namespace Go.Proofs.YtflhbidmjlfjkaaDoor
open Go.RowKit Go.Sort
set_option linter.unusedVariables false

def baD : List Nat := [59, 60, 61, 62, 63, 64, 65, 66, 67, 58, 68, 69, 70, 11, 12, 13]
def tupH (H : Hd) (A1 : Option Addr) (n1 c1 : Nat) (A2 : Option Addr) (n2 c2 : Nat) : Value := .tuple #[.agg (hcs H A1 n1 c1).toArray, .slice A2 n2 c2, .int .i64 0]
theorem hcs_inj {H : Hd} {A A' : Option Addr} {n c n' c' : Nat} (h : (Value.agg (hcs H A n c).toArray) = .agg (hcs H A' n' c').toArray) : A = A' ∧ n = n' ∧ c = c' := by
  injection h with h
  have := congrArg Array.toList h
  simp [hcs] at this
  exact this
theorem tup_inj {H : Hd} {A1 A1' : Option Addr} {n1 c1 n1' c1' : Nat} {A2 A2' : Option Addr} {n2 c2 n2' c2' : Nat} (h : tupH H A1 n1 c1 A2 n2 c2 = tupH H A1' n1' c1' A2' n2' c2') : (A1 = A1' ∧ n1 = n1' ∧ c1 = c1') ∧ A2 = A2' ∧ n2 = n2' ∧ c2 = c2' := by
  unfold tupH at h
  injection h with h
  have := congrArg Array.toList h
  simp only [List.cons.injEq, and_true] at this
  obtain ⟨h1, h2⟩ := this
  injection h2 with e1 e2 e3
  exact ⟨hcs_inj h1, e1, e2, e3⟩
structure baI (w7 : World) (H : Hd) (bb : List UInt8) (a0 a : Act) (u : World) : Prop where
  size : a.tmps.size = a0.tmps.size
  defs : a.defers = a0.defers
  fr : ∀ d, d ∉ baD → a.tmps.getD d undef = a0.tmps.getD d undef
  kept : Kept Nil w7 u
  al : ∀ g f', a.eval (.tmp 11) = .pointer (some ⟨g, f', none⟩) → w7.heap.size ≤ g ∧ g < u.heap.size ∧ ∃ F A n c, HB u g 27 F A n c
  g67 : ∀ A1 n1 c1 A2 n2 c2, a.eval (.tmp 67) = tupH H A1 n1 c1 A2 n2 c2 → Byt u A1 n1 c1 H.x ∧ Byt u A2 n2 c2 bb ∧ ∀ g f', a.eval (.tmp 11) = .pointer (some ⟨g, f', none⟩) → (∀ i, Lies A1 n1 i → i ≠ g) ∧ ∀ i, Lies A2 n2 i → i ≠ g
/-- A slot holds bytes of the region's own. -/
def baO (B s N : Nat) (l : List UInt8) (a : Act) (u : World) : Prop := ∀ A n c, a.eval (.tmp s) = .slice A n c → n = N ∧ u.ownsRow B 5 1 (.slice A n c) n (bys l) ∧ ∀ g f', a.eval (.tmp 11) = .pointer (some ⟨g, f', none⟩) → (Value.slice A n c).ownBlock ≠ some g
def baU (B LL ZL : Nat) (L zz : List UInt8) (j : Nat) (a : Act) (u : World) : Prop := match j with
  | 7 => baO B 60 LL L a u ∧ a.eval (.tmp 67) = undef
  | 8 => baO B 66 ZL zz a u
  | _ => True
def baR (H : Hd) (LL ZL : Nat) (v0 v2 : Value) (kz mz : Nat) (v6 : Value) (i : Nat) (a : Act) (u : World) : Prop := match i with
  | 0 => a.eval (.tmp 59) = v0
  | 1 => ∃ A c, a.eval (.tmp 60) = .slice A LL c
  | 2 => a.eval (.tmp 61) = v2
  | 3 => a.eval (.tmp 62) = v2
  | 4 => a.eval (.tmp 63) = .int .i64 (kz : Int)
  | 5 => a.eval (.tmp 64) = .int .i64 (mz : Int)
  | 6 => a.eval (.tmp 65) = v6
  | 7 => ∃ A c, a.eval (.tmp 66) = .slice A ZL c
  | 8 => ∃ A1 n1 c1 A2 n2 c2, a.eval (.tmp 67) = tupH H A1 n1 c1 A2 n2 c2
  | 9 => a.eval (.tmp 58) = a.eval (.tmp 67) ∧ ∃ A1 n1 c1 A2 n2 c2, a.eval (.tmp 67) = tupH H A1 n1 c1 A2 n2 c2
  | 10 => ∃ A1 n1 c1 A2 n2 c2, a.eval (.tmp 58) = tupH H A1 n1 c1 A2 n2 c2 ∧ a.eval (.tmp 68) = .agg (hcs H A1 n1 c1).toArray
  | 11 => ∃ A1 n1 c1 A2 n2 c2, a.eval (.tmp 58) = tupH H A1 n1 c1 A2 n2 c2 ∧ a.eval (.tmp 69) = .slice A2 n2 c2
  | 12 => a.eval (.tmp 70) = .int .i64 0
  | 13 => ∃ g, a.eval (.tmp 11) = pAt g 0
  | 14 => ∃ g A1 n1 c1, a.eval (.tmp 11) = pAt g 0 ∧ a.eval (.tmp 68) = .agg (hcs H A1 n1 c1).toArray ∧ HB u g 27 H A1 n1 c1
  | 15 => a.eval (.tmp 12) = a.eval (.tmp 69)
  | 16 => a.eval (.tmp 13) = .int .i64 0
  | _ => True
structure baW (H : Hd) (LL ZL : Nat) (v0 v2 : Value) (kz mz : Nat) (v6 : Value) (i : Nat) (a : Act) (u : World) : Prop where
  out : baR H LL ZL v0 v2 kz mz v6 i a u
section
variable {w7 : World} {H : Hd} {bb : List UInt8} {a0 a : Act} {u u' : World} {LL ZL : Nat} {v0 v2 : Value} {kz mz : Nat} {v6 : Value} {i B : Nat} {L zz : List UInt8}
theorem baW.next (h : baW H LL ZL v0 v2 kz mz v6 i a u) (k : Kept Nil u u') : baW H LL ZL v0 v2 kz mz v6 i a u' := ⟨by
  have h := h.out
  unfold baR at h ⊢
  split at h <;> first | exact h | (obtain ⟨g, x, y, z, h1, h2, h3⟩ := h; exact ⟨g, x, y, z, h1, h2, h3.kept k (fun hf => hf)⟩)⟩
theorem baW.own {F : Nat → Prop} (h : baW H LL ZL v0 v2 kz mz v6 i a u) (k : Kept F u u') (hs : ∀ g f', a.eval (.tmp 11) = .pointer (some ⟨g, f', none⟩) → ¬ F g) : baW H LL ZL v0 v2 kz mz v6 i a u' := ⟨by
  have h := h.out
  unfold baR at h ⊢
  split at h <;> first | exact h | (obtain ⟨g, x, y, z, h1, h2, h3⟩ := h; exact ⟨g, x, y, z, h1, h2, h3.kept k (hs g 0 h1)⟩)⟩
theorem baW.st (h : baW H LL ZL v0 v2 kz mz v6 i a u) (hi : i ≠ 14) : baW H LL ZL v0 v2 kz mz v6 i a u' := ⟨by
  have h := h.out
  unfold baR at h ⊢
  split at h <;> first | exact h | exact absurd rfl hi⟩
theorem baI.put (h : baI w7 H bb a0 a u) (d : Nat) (v : Value) (hd : d ∈ baD) (h11 : d ≠ 11) (h67 : d ≠ 67) : baI w7 H bb a0 (a.put (some d) v) u where
  size := (put_size _ _ _).trans h.size
  defs := h.defs
  fr := fun k hk => by
    have hne : d ≠ k := fun e => hk (e ▸ hd)
    exact (eval_put a d v k hne).trans (h.fr k hk)
  kept := h.kept
  al := fun g f' e => h.al g f' (by rwa [eval_put _ _ _ _ h11] at e)
  g67 := fun A1 n1 c1 A2 n2 c2 e => by
    rw [eval_put _ _ _ _ h67] at e
    obtain ⟨e1, e2, e3⟩ := h.g67 A1 n1 c1 A2 n2 c2 e
    exact ⟨e1, e2, fun g f' eg => e3 g f' (by rwa [eval_put _ _ _ _ h11] at eg)⟩
theorem baI.next (h : baI w7 H bb a0 a u) (k : Kept Nil u u') : baI w7 H bb a0 a u' where
  size := h.size
  defs := h.defs
  fr := h.fr
  kept := h.kept.then k
  al := fun g f' e => by
    obtain ⟨h1, h2, F', x, y, z, h4⟩ := h.al g f' e
    exact ⟨h1, Nat.lt_of_lt_of_le h2 k.size, F', x, y, z, h4.kept k (fun hf => hf)⟩
  g67 := fun A1 n1 c1 A2 n2 c2 e => by
    obtain ⟨e1, e2, e3⟩ := h.g67 A1 n1 c1 A2 n2 c2 e
    exact ⟨e1.kept k (fun _ _ hf => hf), e2.kept k (fun _ _ hf => hf), e3⟩
/-- The second append: what it turns is the region's own. -/
theorem baI.app (h : baI w7 H bb a0 a u) {F : Nat → Prop} (k : Kept F u u') (hF : ∀ g, F g → w7.heap.size ≤ g) (hs : ∀ g f', a.eval (.tmp 11) = .pointer (some ⟨g, f', none⟩) → ¬ F g) (h67 : a.eval (.tmp 67) = undef) (v : Value) : baI w7 H bb a0 (a.put (some 66) v) u' where
  size := (put_size _ _ _).trans h.size
  defs := h.defs
  fr := fun d hd => by
    have hne : 66 ≠ d := fun e => hd (e ▸ (by decide))
    exact (eval_put a 66 v d hne).trans (h.fr d hd)
  kept := h.kept.fresh k hF
  al := fun g f' e => by
    rw [eval_put _ _ _ _ (by decide)] at e
    obtain ⟨h1, h2, F', x, y, z, h4⟩ := h.al g f' e
    exact ⟨h1, Nat.lt_of_lt_of_le h2 k.size, F', x, y, z, h4.kept k (hs g f' e)⟩
  g67 := fun A1 n1 c1 A2 n2 c2 e => by
    rw [eval_put _ _ _ _ (by decide), h67] at e
    cases e
theorem baI.got (h : baI w7 H bb a0 a u) (k : Kept Nil u u') (hs : 67 < a.tmps.size) (A1 : Option Addr) (n1 c1 : Nat) (A2 : Option Addr) (n2 c2 : Nat) (h1 : NewB u u' A1 n1 c1 H.x) (h2 : NewB u u' A2 n2 c2 bb) : baI w7 H bb a0 (a.put (some 67) (tupH H A1 n1 c1 A2 n2 c2)) u' := by
  have h' := h.next k
  refine ⟨(put_size _ _ _).trans h.size, h.defs, fun d hd => ?_, h'.kept, fun g f' e => h'.al g f' (by rwa [eval_put _ _ _ _ (by decide)] at e), fun B1 m1 d1 B2 m2 d2 e => ?_⟩
  · have hne : 67 ≠ d := fun e => hd (e ▸ (by decide))
    exact (eval_put a 67 _ d hne).trans (h.fr d hd)
  · rw [eval_same _ _ _ hs] at e
    obtain ⟨⟨rfl, rfl, rfl⟩, rfl, rfl, rfl⟩ := tup_inj e
    refine ⟨h1.1, h2.1, fun g f' eg => ?_⟩
    rw [eval_put _ _ _ _ (by decide)] at eg
    have hg := (h.al g f' eg).2.1
    exact ⟨fun i hi e => by have := h1.2 i hi; omega, fun i hi e => by have := h2.2 i hi; omega⟩
theorem baI.alloc11 (h : baI w7 H bb a0 a u) (hs : 11 < a.tmps.size) : baI w7 H bb a0 (a.put (some 11) (pAt u.heap.size 0)) (u.alloc (.cells (hcs Hd.zero none 0 0).toArray 27)) := by
  have k := (Kept.refl Nil u).alloc (.cells (hcs Hd.zero none 0 0).toArray 27)
  have h' := h.next k
  refine ⟨(put_size _ _ _).trans h.size, h.defs, fun d hd => ?_, h'.kept, fun g f' e => ?_, fun A1 n1 c1 A2 n2 c2 e => ?_⟩
  · have hne : 11 ≠ d := fun e => hd (e ▸ (by decide))
    exact (eval_put a 11 _ d hne).trans (h.fr d hd)
  · rw [eval_same _ _ _ hs] at e
    unfold pAt at e
    cases e
    exact ⟨h.kept.size, by simp, _, _, _, _, HB.new _ _ _ _ _ _⟩
  · rw [eval_put _ _ _ _ (by decide)] at e
    obtain ⟨e1, e2, e3⟩ := h.g67 A1 n1 c1 A2 n2 c2 e
    refine ⟨e1.kept k (fun _ _ hf => hf), e2.kept k (fun _ _ hf => hf), fun g f' eg => ?_⟩
    rw [eval_same _ _ _ hs] at eg
    unfold pAt at eg
    cases eg
    exact ⟨fun i hi e => by have := e1.lt i hi; omega, fun i hi e => by have := e2.lt i hi; omega⟩
theorem baI.store14 (h : baI w7 H bb a0 a u) {g : Nat} (k : Kept (One g) u u') (hz : u'.heap.size = u.heap.size) (e11 : a.eval (.tmp 11) = pAt g 0) {A1 : Option Addr} {n1 c1 : Nat} (hfb : HB u' g 27 H A1 n1 c1) : baI w7 H bb a0 a u' := by
  obtain ⟨hg1, hg2, _⟩ := h.al g 0 e11
  refine ⟨h.size, h.defs, h.fr, h.kept.fresh k (fun i hi => by cases hi; exact hg1), fun g' f' e => ?_, fun A1 n1 c1 A2 n2 c2 e => ?_⟩
  · rw [e11] at e
    unfold pAt at e
    cases e
    exact ⟨hg1, by rw [hz]; exact hg2, _, _, _, _, hfb⟩
  · obtain ⟨e1, e2, e3⟩ := h.g67 A1 n1 c1 A2 n2 c2 e
    obtain ⟨f1, f2⟩ := e3 g 0 e11
    exact ⟨e1.kept k (fun i hi hf => f1 i hi hf), e2.kept k (fun i hi hf => f2 i hi hf), e3⟩
theorem baO.put {s N : Nat} {l : List UInt8} (h : baO B s N l a u) (d : Nat) (v : Value) (h11 : d ≠ 11) (hs : d ≠ s) : baO B s N l (a.put (some d) v) u := fun A n c e => by
  rw [eval_put _ _ _ _ hs] at e
  obtain ⟨e1, e2, e3⟩ := h A n c e
  exact ⟨e1, e2, fun g f' eg => e3 g f' (by rwa [eval_put _ _ _ _ h11] at eg)⟩
theorem baO.next {s N : Nat} {l : List UInt8} (h : baO B s N l a u) (k : Kept Nil u u') : baO B s N l a u' := fun A n c e => by
  obtain ⟨e1, e2, e3⟩ := h A n c e
  exact ⟨e1, own_kept e2 k (fun _ _ hf => hf), e3⟩
theorem baO.alloc {s N : Nat} {l : List UInt8} (h : baO B s N l a u) (hs : 11 < a.tmps.size) (hn : 11 ≠ s) : baO B s N l (a.put (some 11) (pAt u.heap.size 0)) (u.alloc (.cells (hcs Hd.zero none 0 0).toArray 27)) := fun A n c e => by
  rw [eval_put _ _ _ _ hn] at e
  obtain ⟨e1, e2, e3⟩ := h A n c e
  refine ⟨e1, own_kept e2 ((Kept.refl Nil u).alloc _) (fun _ _ hf => hf), fun g f' eg eo => ?_⟩
  rw [eval_same _ _ _ hs] at eg
  unfold pAt at eg
  cases eg
  have := (e2.lt _ eo).2
  omega
theorem baU.put {j : Nat} (h : baU B LL ZL L zz j a u) (d : Nat) (v : Value) (h11 : d ≠ 11) (h60 : d ≠ 60) (h66 : d ≠ 66) (h67 : d ≠ 67) : baU B LL ZL L zz j (a.put (some d) v) u := by
  unfold baU at h ⊢
  split at h
  · exact ⟨h.1.put d v h11 h60, by rw [eval_put _ _ _ _ h67]; exact h.2⟩
  · exact baO.put h d v h11 h66
  · trivial
end
end Go.Proofs.YtflhbidmjlfjkaaDoor
