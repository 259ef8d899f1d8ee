/- Texts that belong together, one behind the other: TagE, TagF. Conditions: those of each. -/
import Derived.Test.YtbkjobmjapbmpaaMg16
/- Package tag: contracts of Push and Pop. -/
namespace Go.Proofs.Ytbkjobmjapbmpaa
open Go.RowKit Go.Sort
set_option linter.unusedVariables false

def pushM (l : List Tg) (t : Tg) : List Tg × Int :=
  if mayL l = false ∨ mayT t = false then ([], 1) else if l.length = 2 then ([], 7) else if mayL (t :: l) then (t :: l, 0) else ([], 1)
theorem own_lit {w : World} {s : Nat} (rs : List (List Value)) (t : TypeId) (hr : ∀ r ∈ rs, r.length = s) (h : rs.length ≤ maxLen) (cs : Array Value) (hc : cs = rs.flatten.toArray) (n : Nat) (hn : rs.length = n) (b : Nat) (hb : b = w.heap.size) (B : Nat) (hB : B ≤ w.heap.size) :
    (w.alloc (.cells cs t)).ownsRow B t s (.slice (some ⟨b, 0, none⟩) n n) n rs.flatten := by
  subst hn hc hb
  have hl := flat_len hr
  exact ⟨hl, .inr ⟨w.heap.size, rs.length, rs.flatten.toArray, rfl, hB, heap_alloc_new w _, Nat.le_refl _, h, by simpa using hl, by rw [← hl, List.toList_toArray]; exact List.take_of_length_le (Nat.le_refl _)⟩⟩

def popM (l : List Tg) : Tg × List Tg × Int :=
  if mayL l = false then (⟨0, 0, false, 0⟩, [], 1) else match l with
  | [] => (⟨0, 0, false, 0⟩, [], 6)
  | t :: r => (t, r, 0)
/-- What the copy that Pop makes keeps up. -/
def cloI (n0 : Nat) (l : List Tg) (D : Nat → Prop) (s : List Value) (u : World) : Prop := n0 ≤ u.heap.size ∧ match s with
  | [] => True
  | v :: _ => u.ownsRow n0 63 4 v l.length (l.map tgc).flatten
theorem cloI_keeps (n0 : Nat) (l : List Tg) : Keeps (cloI n0 l) where
  quiet := fun D s u u' ⟨h1, h2⟩ hk => ⟨Nat.le_trans h1 hk.size, by
    cases s with
    | nil => trivial
    | cons v s => exact own_kept h2 hk (fun _ _ hf => hf)⟩
  make := fun D s u o ⟨h1, h2⟩ => ⟨by simp; omega, by
    cases s with
    | nil => trivial
    | cons v s => exact own_kept h2 ((Kept.refl Nil u).alloc o) (fun _ _ hf => hf)⟩

theorem blo_store4 {w : World} {g : Nat} {t : TypeId} {a0 a1 a2 a3 : Value} (h : Blo w g t #[a0, a1, a2, a3]) (b0 b1 b2 b3 : Value) :
    Blo ((((w.setCell ⟨g, 0, none⟩ b0).setCell ⟨g, 1, none⟩ b1).setCell ⟨g, 2, none⟩ b2).setCell ⟨g, 3, none⟩ b3) g t #[b0, b1, b2, b3] ∧ Kept (One g) w ((((w.setCell ⟨g, 0, none⟩ b0).setCell ⟨g, 1, none⟩ b1).setCell ⟨g, 2, none⟩ b2).setCell ⟨g, 3, none⟩ b3) :=
  ⟨by simpa using (((h.set 0 b0).set 1 b1).set 2 b2).set 3 b3, ((((Kept.refl (One g) w).put rfl _).put rfl _).put rfl _).put rfl _⟩

end Go.Proofs.Ytbkjobmjapbmpaa
/- tolllaw03: of; the reference's Read. -/
namespace Go.Proofs.Ytbkjobmjapbmpaa
open Go.RowKit Go.Sort
set_option linter.unusedVariables false

theorem Try.infr : (Try.prog.info? 109).map (fun i => (i.zero, i.size, i.bytes)) = some (some (tgv ⟨0, 0, false, 0⟩), 4, 6) := by kernel_rfl
/-- The document's tags in new memory. -/
def MadeQ (w w' : World) (v : Value) (l : List Tg) : Prop := w'.ownsRow w.heap.size 109 4 v l.length (l.map tgc).flatten ∧ Kept Nil w w'

theorem own_block_ge {w : World} {B e size n : Nat} {v : Value} {xs : List Value} (h : w.ownsRow B e size v n xs) : ∀ i, v.ownBlock = some i → B ≤ i := fun i hi => (h.lt i hi).1
theorem numM_two (a b : UInt8) : (numM [a, b] : Int) = 256 * (a.toNat : Int) + b.toNat := by simp [numM]; omega
theorem two_of (l : List UInt8) (h : 2 ≤ l.length) : ∃ a b r, l = a :: b :: r := by
  match l, h with
  | a :: b :: r, _ => exact ⟨a, b, r, rfl⟩
theorem four_of (l : List UInt8) (h : 4 ≤ l.length) : ∃ a b c d r, l = a :: b :: c :: d :: r := by
  match l, h with
  | a :: b :: c :: d :: r, _ => exact ⟨a, b, c, d, r, rfl⟩
/-- Documents' tags and bytes, in new memory and in old. -/
structure MadeS (w w' : World) (v1 v2 : Value) (ts : List Tg) (r : List UInt8) (F : Nat → Prop) : Prop where
  tags : w'.ownsRow w.heap.size 109 4 v1 ts.length (ts.map tgc).flatten
  rest : ∃ A m c, v2 = .slice A m c ∧ Byt w' A m c r
  ok : ∀ t ∈ ts, t.ok
  kept : Kept Nil w w'
  far : ∀ A m c, v2 = .slice A m c → ∀ i, Lies A m i → F i
theorem readGo_ok (f : Nat) : ∀ (ts : List Tg) (b : List UInt8), (∀ t ∈ ts, t.ok) → ∀ t ∈ (readGo f ts b).1, t.ok := by
  induction f with
  | zero => intro ts b h; exact h
  | succ f ih =>
    intro ts b h
    unfold readGo
    split
    · split
      · intro t ht; simp at ht
      · refine ih _ _ fun t ht => ?_
        rcases List.mem_append.1 ht with ht | ht
        · exact h t ht
        · simp at ht
          subst ht
          exact tagOfM_ok _ _ (numM_take2 _) (numM_take2 _)
    · exact h

end Go.Proofs.Ytbkjobmjapbmpaa
