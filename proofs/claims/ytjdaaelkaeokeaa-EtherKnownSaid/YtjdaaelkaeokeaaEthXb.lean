/- tolllaw04.EtherKnown: what Put says. -/
import Derived.Test.YtjdaaelkaeokeaaEthXa
namespace Go.Proofs.Ytjdaaelkaeokeaa
open Go.RowKit Go.Sort
set_option linter.unusedVariables false

theorem tags_lit (w : World) (l : List Tg) (t : TypeId) (cs : Array Value) (hcs : cs = ((l.map tgc).flatten).toArray) (n : Nat) (hn : l.length = n) (b : Nat) (hb : b = w.heap.size) (h : l.length ≤ 1000) (hok : ∀ x ∈ l, x.ok) : Tags (w.alloc (.cells cs t)) (some ⟨b, 0, Option.none⟩) n n l :=
  ⟨Rws.lit w (l.map tgc) t (by intro r hr; obtain ⟨x, _, rfl⟩ := List.mem_map.1 hr; rfl) (by rw [List.length_map]; omega) cs hcs n (by rw [List.length_map]; exact hn) b hb, hok⟩
def t1 : Tg := ⟨33024, 0, false, 0⟩
theorem t1_ok : t1.ok := ⟨by decide, by decide, by decide⟩
def KP (F : Fr) (vt vb vr : Value) (e : Int) (w : World) : Prop := Calls Try.prog 11 #[frv F vt vb vr] w fun r w' => ∃ A n c, r = .returned (.tuple #[.slice A n c, .int .i64 e]) ∧ Kept Nil w w'
theorem kp_of {F : Fr} {vt vb vr : Value} {w : World} (e : Int) (h : FrIn w F vt vb vr) (he : (putM F).2 = e) : KP F vt vb vr e w := by
  refine (kput F e vt vb vr w h he _ rfl).mono ?_
  rintro r w' ⟨A, c, rfl, hk⟩
  exact ⟨A, _, c, rfl, hk⟩
theorem kp4 (w : World) : KP ⟨z6, z6, [], 1, 33024, z3, z3, [], []⟩ nilv nilv nilv 1 w := kp_of 1 (frIn_of _ _ _ _ (.inl rfl) ⟨by simp, by simp⟩ ⟨rfl, rfl, rfl, rfl⟩ (nilT _) (nilB _) (nilB _) (by simp) (by simp) (by simp)) (by kernel_rfl)
theorem kp5 (w : World) (A : Option Addr) (n c : Nat) (ht : Tags w A n c [t1]) : KP ⟨z6, z6, [t1], 1, 34984, z3, z3, [], []⟩ (.slice A n c) nilv nilv 0 w := kp_of 0 (frIn_of _ _ _ _ (.inl rfl) ⟨by simp, by simp⟩ ⟨rfl, rfl, rfl, rfl⟩ ⟨_, _, _, rfl, ht⟩ (nilB _) (nilB _) (by simp) (by simp) (by simp)) (by kernel_rfl)
theorem kp6 (w : World) (A : Option Addr) (n c : Nat) (ht : Tags w A n c [t1, t1]) : KP ⟨z6, z6, [t1, t1], 1, 33024, z3, z3, [], []⟩ (.slice A n c) nilv nilv 0 w := kp_of 0 (frIn_of _ _ _ _ (.inl rfl) ⟨by simp, by simp⟩ ⟨rfl, rfl, rfl, rfl⟩ ⟨_, _, _, rfl, ht⟩ (nilB _) (nilB _) (by simp) (by simp) (by simp)) (by kernel_rfl)
theorem kp7 (w : World) : KP ⟨z6, z6, [], 1, 1535, z3, z3, [], []⟩ nilv nilv nilv 1 w := kp_of 1 (frIn_of _ _ _ _ (.inl rfl) ⟨by simp, by simp⟩ ⟨rfl, rfl, rfl, rfl⟩ (nilT _) (nilB _) (nilB _) (by simp) (by simp) (by simp)) (by kernel_rfl)
theorem kp8 (w : World) (A : Option Addr) (n c : Nat) (b : List UInt8) (hb : Byt w A n c b) (h : b.length = 1498) : KP ⟨z6, z6, [], 2, 0, z3, z3, b, []⟩ nilv (.slice A n c) nilv 1 w := kp_of 1 (frIn_of _ _ _ _ (.inr (.inl rfl)) ⟨by simp, by simp⟩ ⟨rfl, rfl, rfl, rfl⟩ (nilT _) ⟨_, _, _, rfl, hb⟩ (nilB _) (by simp) (by simp [h]) (by simp)) (p_llc b h).1
theorem kp9 (w : World) (A : Option Addr) (n c : Nat) (b : List UInt8) (hb : Byt w A n c b) (h : b.length = 1497) : KP ⟨z6, z6, [], 2, 0, z3, z3, b, []⟩ nilv (.slice A n c) nilv 0 w := kp_of 0 (frIn_of _ _ _ _ (.inr (.inl rfl)) ⟨by simp, by simp⟩ ⟨rfl, rfl, rfl, rfl⟩ (nilT _) ⟨_, _, _, rfl, hb⟩ (nilB _) (by simp) (by simp [h]) (by simp)) (p_llc' b h).1
theorem kp10 (w : World) : KP ⟨z6, z6, [], 2, 0, snapL, z3, [], []⟩ nilv nilv nilv 1 w := kp_of 1 (frIn_of _ _ _ _ (.inr (.inl rfl)) ⟨by simp, by simp⟩ ⟨rfl, rfl, rfl, rfl⟩ (nilT _) (nilB _) (nilB _) (by simp) (by simp) (by simp)) (by kernel_rfl)
theorem kp11 (w : World) (A : Option Addr) (n c : Nat) (b : List UInt8) (hb : Byt w A n c b) (h : b.length = 1493) : KP ⟨z6, z6, [], 3, 0, snapL, z3, b, []⟩ nilv (.slice A n c) nilv 1 w := kp_of 1 (frIn_of _ _ _ _ (.inr (.inr (.inl rfl))) ⟨by simp, by simp⟩ ⟨rfl, rfl, rfl, rfl⟩ (nilT _) ⟨_, _, _, rfl, hb⟩ (nilB _) (by simp) (by simp [h]) (by simp)) (p_snap b h).1
theorem kp12 (w : World) (A : Option Addr) (n c : Nat) (b : List UInt8) (hb : Byt w A n c b) (h : b.length = 65526) : KP ⟨z6, z6, [], 1, 2048, z3, z3, b, []⟩ nilv (.slice A n c) nilv 3 w := kp_of 3 (frIn_of _ _ _ _ (.inl rfl) ⟨by simp, by simp⟩ ⟨rfl, rfl, rfl, rfl⟩ (nilT _) ⟨_, _, _, rfl, hb⟩ (nilB _) (by simp) (by simp [h]) (by simp)) (p_two b h).1
theorem kp13 (w : World) (A : Option Addr) (n c : Nat) (hb : Byt w A n c [1]) : KP ⟨z6, z6, [], 1, 2048, z3, z3, [], [1]⟩ nilv nilv (.slice A n c) 1 w := kp_of 1 (frIn_of _ _ _ _ (.inl rfl) ⟨by simp, by simp⟩ ⟨rfl, rfl, rfl, rfl⟩ (nilT _) (nilB _) ⟨_, _, _, rfl, hb⟩ (by simp) (by simp) (by simp)) (by kernel_rfl)
theorem kp14 (w : World) : KP ⟨z6, z6, [], 4, 0, z3, z3, [], []⟩ nilv nilv nilv 1 w := kp_of 1 (frIn_of _ _ _ _ (.inr (.inr (.inr rfl))) ⟨by simp, by simp⟩ ⟨rfl, rfl, rfl, rfl⟩ (nilT _) (nilB _) (nilB _) (by simp) (by simp) (by simp)) (by kernel_rfl)
theorem kp15 (w : World) (A : Option Addr) (n c : Nat) (b : List UInt8) (hb : Byt w A n c b) (h : b.length = 65525) : Calls Try.prog 11 #[frv ⟨z6, z6, [], 1, 2048, z3, z3, b, []⟩ nilv (.slice A n c) nilv] w fun r w' => ∃ A c, r = .returned (.tuple #[.slice A 65539 c, .int .i64 0]) ∧ Kept Nil w w' :=
  kput _ 0 _ _ _ w (frIn_of _ _ _ _ (.inl rfl) ⟨by simp, by simp⟩ ⟨rfl, rfl, rfl, rfl⟩ (nilT _) ⟨_, _, _, rfl, hb⟩ (nilB _) (by simp) (by simp [h]) (by simp)) (p_two' b h).1 65539 (p_two' b h).2
end Go.Proofs.Ytjdaaelkaeokeaa
