/- Contracts of the reference's cutter (package tollref01): what each call answers, and what becomes of its block. -/
import Derived.Test.YtjfffddaiefggaaCutC
import Derived.Test.YtjfffddaiefggaaMem2
namespace Go.Proofs.Ytjfffddaiefggaa
open Go.RowKit
set_option linter.unusedVariables false

structure Refr (w : World) (g : Nat) (A : Option Addr) (n c : Nat) (s : Cst) : Prop where
  blo : Blo w g 29 #[.slice A n c, .int .i64 (s.k : Int), .int .i64 s.er]
  byt : Byt w A n c s.l
  le : s.k ≤ n
  apart : ∀ i, Lies A n i → i ≠ g

section
variable {w w' : World} {g n c : Nat} {A : Option Addr} {s : Cst}
theorem Refr.c0 (h : Refr w g A n c s) : w.cell? ⟨g, 0, none⟩ = some (.slice A n c) := h.blo.cell 0
theorem Refr.c1 (h : Refr w g A n c s) : w.cell? ⟨g, 1, none⟩ = some (.int .i64 (s.k : Int)) := h.blo.cell 1
theorem Refr.c2 (h : Refr w g A n c s) : w.cell? ⟨g, 2, none⟩ = some (.int .i64 s.er) := h.blo.cell 2
theorem Refr.len (h : Refr w g A n c s) : s.l.length = n := h.byt.1
theorem Refr.kept {F : Nat → Prop} (h : Refr w g A n c s) (k : Kept F w w') (hg : ¬ F g) (hA : ∀ i, Lies A n i → ¬ F i) : Refr w' g A n c s :=
  ⟨h.blo.kept k hg, h.byt.kept k hA, h.le, h.apart⟩
theorem Refr.drewN (h : Refr w g A n c s) (q : Nat) : Refr (w.drewN q) g A n c s := ⟨h.blo, h.byt, h.le, h.apart⟩
theorem Refr.setErr (h : Refr w g A n c s) (e : Int) : Refr (w.setCell ⟨g, 2, none⟩ (.int .i64 e)) g A n c { s with er := e } :=
  ⟨by have := h.blo.set 2 (.int .i64 e); simpa using this, h.byt.kept (Kept.one w g _ _ _) h.apart, h.le, h.apart⟩
theorem Refr.setAt (h : Refr w g A n c s) (k : Nat) (hk : k ≤ n) (x : Int) (hx : x = (k : Int)) : Refr (w.setCell ⟨g, 1, none⟩ (.int .i64 x)) g A n c { s with k := k } := by
  subst hx
  exact ⟨by have := h.blo.set 1 (.int .i64 (k : Int)); simpa using this, h.byt.kept (Kept.one w g _ _ _) h.apart, hk, h.apart⟩
theorem Refr.heap (h : Refr w g A n c s) (e : w'.heap = w.heap) : Refr w' g A n c s := ⟨h.blo.heap e, h.byt.heap e, h.le, h.apart⟩
end

theorem rleft_yes (g : Nat) (A : Option Addr) (n c : Nat) (s : Cst) (w : World) (h : Refr w g A n c s) :
    Calls Try.prog 22 #[.pointer (some ⟨g, 0, none⟩)] w fun e w' => e = .returned (.int .i64 (leftM s)) ∧ ∃ q, w' = w.drewN q := by
  have h0 := h.c0
  have h1 := h.c1
  have h2 := h.c2
  have hle := h.le
  have hn : n ≤ 9223372036854775807 := Nat.le_trans h.byt.2.1 h.byt.2.2.1
  by_cases he : s.er = 0
  · have hl : leftM s = (n : Int) - s.k := by unfold leftM; rw [if_pos he, h.len]
    rw [hl]
    clear hl h
    have hb : (s.er != 0) = false := by simp [he]
    have Hn := Lib.hid he
    clear he
    go_enter Try.func22, Try.ntmps22
    go_wp2
    go_quiet (fail)
    go_wp2
    go_ret
    exact ⟨rfl, _, rfl⟩
  · have hl : leftM s = 0 := by unfold leftM; rw [if_neg he]
    rw [hl]
    clear hl h
    have hb : (s.er != 0) = true := by simp [he]
    go_enter Try.func22, Try.ntmps22
    go_wp2
    go_ret
    exact ⟨rfl, 0, rfl⟩

theorem rfail_yes (g : Nat) (A : Option Addr) (n c : Nat) (s : Cst) (x : Int) (w : World) (h : Refr w g A n c s) :
    Calls Try.prog 24 #[.pointer (some ⟨g, 0, none⟩), .int .i64 x] w fun e w' => e = .returned (.tuple #[]) ∧ Refr w' g A n c (failM s x) ∧ Kept (One g) w w' := by
  have h2 := h.c2
  have hf := h.blo.frozen 2
  by_cases he : s.er = 0
  · have hr : Refr (w.setCell ⟨g, 2, none⟩ (.int .i64 x)) g A n c (failM s x) := by unfold failM; rw [if_pos he]; exact h.setErr x
    have Hr := Lib.hid hr
    clear hr h
    have hb : (s.er == 0) = true := by simp [he]
    have Hn := Lib.hid he
    clear he
    go_enter Try.func24, Try.ntmps24
    go_wp2
    go_end0
    exact ⟨rfl, Hr.out, Kept.one _ _ _ _ _⟩
  · have hr : Refr w g A n c (failM s x) := by unfold failM; rw [if_neg he]; exact h
    have Hr := Lib.hid hr
    clear hr h
    have hb : (s.er == 0) = false := by simp [he]
    go_enter Try.func24, Try.ntmps24
    go_wp2
    go_end0
    exact ⟨rfl, Hr.out, Kept.refl _ _⟩

/-- One byte more is taken: what the append and the store behind it leave. -/
theorem rt_step {w wr W w3 : World} {g n c p : Nat} {A : Option Addr} {l : List UInt8} {er : Int} {v v3 : Value} {j : Nat} {L : List UInt8} {z x : Int} {b : UInt8} {t : TypeId} (h : Refr wr g A n c ⟨l, p, er⟩) (hK : Kept (One g) w wr) (hgl : g < w.heap.size) (hAl : ∀ i, Lies A n i → i < w.heap.size)
    (hO : wr.ownsRow w.heap.size 5 1 v j (bys L)) (hW : ∃ q, W = (wr.alloc (.cells #[.int .u8 z] t)).drewN q) (hz : z = (b.toNat : Int)) (hx : x = (p : Int) + 1) (hp : p < n)
    (ho : w3.ownsRow w.heap.size 5 1 v3 (j + 1) (bys L ++ [.int .u8 z])) (hg : W.grownBy w3 v.ownBlock) :
    (w3.cell? ⟨g, 1, none⟩ = some (.int .i64 (p : Int)) ∧ w3.frozen? ⟨g, 1, none⟩ = false) ∧
    Hid (Refr (w3.setCell ⟨g, 1, none⟩ (.int .i64 x)) g A n c ⟨l, p + 1, er⟩ ∧ Kept (One g) w (w3.setCell ⟨g, 1, none⟩ (.int .i64 x)) ∧ (w3.setCell ⟨g, 1, none⟩ (.int .i64 x)).ownsRow w.heap.size 5 1 v3 (j + 1) (bys (L ++ [b]))) := by
  obtain ⟨q, rfl⟩ := hW
  subst hz
  subst hx
  have hlt := hO.lt
  have K1 : Kept (fun k => v.ownBlock = some k) wr w3 := (((Kept.refl (fun k => v.ownBlock = some k) wr).alloc _).drewN q).grown hg (fun k hk _ => hk)
  have h3 : Refr w3 g A n c ⟨l, p, er⟩ := h.kept K1 (fun hf => by have := (hlt _ hf).1; omega) (fun i hi hf => by have := (hlt _ hf).1; have := hAl i hi; omega)
  refine ⟨⟨h3.c1, h3.blo.frozen 1⟩, ?_, ?_, ?_⟩
  · exact h3.setAt (p + 1) hp _ (by simp)
  · exact (hK.fresh K1 (fun i hf => (hlt _ hf).1)).put rfl _
  · have := own_kept ho (Kept.one w3 g 1 none (.int .i64 ((p : Int) + 1))) (fun i hi hi' => by cases hi'; have := (ho.lt _ hi).1; omega)
    rw [bys_app]
    exact this

set_option maxHeartbeats 1000000 in
theorem rtake_yes (g : Nat) (A : Option Addr) (n c : Nat) (s : Cst) (x : Int) (w : World) (h : Refr w g A n c s) (hn : n ≤ 140737488355328) :
    Calls Try.prog 19 #[.pointer (some ⟨g, 0, none⟩), .int .i64 x] w fun e w' =>
      ∃ v, e = .returned v ∧ w'.ownsRow w.heap.size 5 1 v (takeM s x).1.length (bys (takeM s x).1) ∧ Refr w' g A n c (takeM s x).2 ∧ Kept (One g) w w' := by
  have hle := h.le
  have hlen := h.len
  have h2 := h.c2
  have hf := h.blo.frozen 2
  by_cases he : s.er = 0
  · rw [he] at h2
    by_cases h1 : x < 0
    · have ht : takeM s x = ([], { s with er := 1 }) := by unfold takeM; simp [he, h1]
      rw [ht]
      have Hr := Lib.hid (h.setErr 1)
      clear ht hlen he h
      go_enter Try.func19, Try.ntmps19
      go_wp2
      go_ret
      exact ⟨_, rfl, World.ownsRow_nil _ _ _ _, Hr.out, Kept.one _ _ _ _ _⟩
    · have h0 := h.c0
      have h1' := h.c1
      by_cases h3 : (n : Int) - s.k < x
      · have ht : takeM s x = ([], { s with er := 4 }) := by unfold takeM; simp [he, h1, hlen]; omega
        rw [ht]
        have Hr := Lib.hid (h.setErr 4)
        clear ht hlen he h
        go_enter Try.func19, Try.ntmps19
        go_wp2
        go_quiet (fail)
        go_wp2
        go_ret
        exact ⟨_, rfl, World.ownsRow_nil _ _ _ _, Hr.out.heap rfl, (Kept.one _ _ _ _ _).drewN _⟩
      · obtain ⟨m, rfl⟩ := Int.eq_ofNat_of_zero_le (show 0 ≤ x by omega)
        have ht : takeM s m = ((s.l.drop s.k).take m, { s with k := s.k + m }) := by
          unfold takeM
          rw [if_neg (by simp [he]), if_neg (by omega), if_neg (by rw [hlen]; omega), List.drop_take]
          simp
        rw [ht]
        have hgl : g < w.heap.size := h.blo.lt
        have hAl := h.byt.lt
        have hRl : ((s.l.drop s.k).take m).length = m := by simp; omega
        rw [hRl]
        obtain ⟨l, p0, er⟩ := s
        simp only at he h1' hle hlen h3 hRl
        subst he
        have HH := Lib.hid h
        have HA := Lib.hid hAl
        have HL := Lib.hid hlen
        have HRL := Lib.hid hRl
        clear h hAl hlen ht hRl
        obtain ⟨i0, hi, hz0, hz1, hz2⟩ := info_parts Try.infb
        go_enter Try.func19, Try.ntmps19
        go_wp2
        go_quiet (fail)
        go_wp2
        clear h0 h1' h2 hf
        go_loopw [5, 6] (fun v i wr => ∃ (j p : Nat), j ≤ m ∧ p = p0 + j ∧ i = .int .i64 j ∧ wr.ownsRow w.heap.size 5 1 v j (bys ((l.drop p0).take j)) ∧ Refr wr g A n c ⟨l, p, 0⟩ ∧ Kept (One g) w wr) (fun _ i _ => m - (intOf i).toNat)
        case atStart => exact ⟨0, p0, Nat.zero_le _, rfl, rfl, World.ownsRow_nil _ _ _ _, HH.out.heap rfl, (Kept.refl _ _).drewN _⟩
        case round =>
          obtain ⟨j, p, hj, hpe, rfl, ho, hr, hk⟩ := hrel
          by_cases hlt : j < m
          · have hpn : p < n := by omega
            have hpl : p < l.length := by rw [HL.out]; exact hpn
            obtain ⟨b, o, rfl, hce⟩ := hr.byt.at hpl
            have q0 := hr.c0
            have q1 := hr.c1
            have hts : (l.drop p0).take (j + 1) = (l.drop p0).take j ++ [l[p]] := by
              rw [List.take_succ_eq_append_getElem (by simp; omega)]
              simp only [List.getElem_drop]
              simp only [hpe]
            have hsz : w.heap.size ≤ wr.heap.size := hk.size
            have HTS := Lib.hid hts
            have HO := Lib.hid ho
            have HR := Lib.hid hr
            have HK := Lib.hid hk
            have HPE := Lib.hid hpe
            obtain ⟨A', c', hv⟩ := own_form ho
            subst hv
            clear hts ho hr hk hpe
            go_wp2
            go_region_law (refine step_own rfl (.tmp 40) (.tmp 51) 22 rfl w.heap.size 5 i0 (.int .u8 0) 1 1 Try.underlying22 hi hz0 hz1 hz2 rfl (by decide) (.slice A' j c') _ _ rfl (by exact HO.out.alloc _) ⟨_, 0, none⟩ 1 1 [_] rfl rfl (cell_one_new _ _ _) (by intro u hu; simp at hu; subst hu; rfl) (by unfold maxLen; omega) (by omega) (by simp; omega) ?_; intro v3 w3 ho3 hg3 hn3; obtain ⟨A3, c3, rfl⟩ := own_form ho3; obtain ⟨⟨s1, s2⟩, HQ⟩ := rt_step HR.out HK.out hgl HA.out HO.out ⟨1, rfl⟩ rfl rfl hpn ho3 hg3; clear ho3 hg3 hn3)
            all_goals
              go_wp2
              go_roundw
              case rel => exact ⟨j + 1, p + 1, by omega, by have := HPE.out; omega, by go_num, by rw [HTS.out]; exact HQ.out.2.2, HQ.out.1, HQ.out.2.1⟩
              case measure => simp [intOf]; omega
          · have hjm : j = m := by omega
            subst hjm
            subst hpe
            have HO := Lib.hid ho
            have HR := Lib.hid hr
            have HK := Lib.hid hk
            clear ho hr hk
            go_wp2
            go_ret
            exact ⟨_, rfl, HO.out, HR.out, HK.out⟩
  · have ht : takeM s x = ([], s) := by unfold takeM; simp [he]
    have hb : (s.er != 0) = true := by simp [he]
    rw [ht]
    have Hr := Lib.hid h
    clear ht hlen he h
    go_enter Try.func19, Try.ntmps19
    go_wp2
    go_ret
    exact ⟨_, rfl, World.ownsRow_nil _ _ _ _, Hr.out, Kept.refl _ _⟩

theorem u32_step (a : Nat) (b : UInt8) (h : a < 16777216) : ((a : Int) * 256 % 4294967296 + (b.toNat : Int) % 4294967296) % 4294967296 = ((a * 256 + b.toNat : Nat) : Int) := by
  have hb := b.toNat_lt
  omega

set_option maxHeartbeats 1000000 in
theorem rnumber_yes (g : Nat) (A : Option Addr) (n c : Nat) (s : Cst) (x : Int) (w : World) (h : Refr w g A n c s) (hn : n ≤ 140737488355328) (hx : x ≤ 4) :
    Calls Try.prog 12 #[.pointer (some ⟨g, 0, none⟩), .int .i64 x] w fun e w' =>
      e = .returned (.int .u32 (numM (takeM s x).1 : Int)) ∧ Refr w' g A n c (takeM s x).2 ∧ Kept (One g) w w' := by
  have hlen := takeM_len2 s x
  go_enter Try.func12, Try.ntmps12
  go_wp2_with fail
  refine (rtake_yes g A n c s x _ h hn).mono ?_
  rintro e w1 ⟨v, rfl, ho, hr, hk⟩
  have HR := Lib.hid hr
  have HK := Lib.hid hk
  clear hr hk h
  generalize hG : (takeM s x).1 = l at *
  have HG := Lib.hid hG
  clear hG
  obtain ⟨m, hm⟩ : ∃ m, m = l.length := ⟨_, rfl⟩
  rw [← hm] at ho hlen
  obtain ⟨A', c', rfl, hb, _⟩ := Byt.of_own ho
  have hm4 : m ≤ 4 := by omega
  have hmc : m ≤ c' := hb.2.1
  have hcc : c' ≤ 9223372036854775807 := hb.2.2.1
  have Hb := Lib.hid hb
  have HM := Lib.hid hm
  clear hb hm ho hlen
  go_wp2
  go_loop [6, 7] (fun t i => ∃ k : Nat, k ≤ m ∧ i = .int .i64 k ∧ t = .int .u32 (numM (l.take k) : Int)) (fun _ i => m - (intOf i).toNat)
  case atStart => exact ⟨0, Nat.zero_le _, rfl, rfl⟩
  case round =>
    obtain ⟨k, hk, rfl, rfl⟩ := hrel
    by_cases hlt : k < m
    · have hkl : k < l.length := by rw [Hb.out.1]; exact hlt
      obtain ⟨b, o, rfl, hcell⟩ := Hb.out.at (i := k) hkl
      have hlt2 : numM (l.take k) < 16777216 := by
        have h1 := numM_lt (l.take k)
        have h2 : (256 : Nat) ^ (l.take k).length ≤ 256 ^ 3 := Nat.pow_le_pow_right (by omega) (by simp; omega)
        omega
      have HJ := Lib.hid (u32_step (numM (l.take k)) l[k] hlt2)
      have HS := Lib.hid (numM_snoc (l.take k) l[k])
      have HT := Lib.hid (take_snoc' l k hkl)
      clear hlt2
      go_wp2
      go_round
      case rel => exact ⟨k + 1, by omega, by go_num, by rw [HJ.out, HT.out, HS.out]⟩
      case measure => simp [intOf]; omega
    · have ht : l.take k = l := by rw [List.take_of_length_le]; rw [Hb.out.1]; omega
      rw [ht]
      clear ht
      go_wp2
      go_ret
      exact ⟨by rw [HG.out]; rfl, HR.out, HK.out⟩

/-- The array as it stands when k bytes have been laid into it. -/
def macAt (l : List UInt8) (k : Nat) : List UInt8 := l.take k ++ List.replicate (6 - k) 0
theorem macAt_set (l : List UInt8) (k : Nat) (hk : k < l.length) (h6 : l.length ≤ 6) : (bys (macAt l k)).toArray.setIfInBounds k (.int .u8 (l[k].toNat : Int)) = (bys (macAt l (k + 1))).toArray := by
  have h1 : (l.take k).length = k := by simp; omega
  have h2 : List.replicate (6 - k) (0 : UInt8) = 0 :: List.replicate (6 - (k + 1)) 0 := by rw [show 6 - k = (6 - (k + 1)) + 1 from by omega]; rfl
  rw [List.setIfInBounds_toArray]
  congr 1
  unfold macAt
  rw [h2, take_snoc' l k hk]
  simp only [bys, List.map_append, List.map_cons, List.append_assoc, List.cons_append, List.nil_append]
  rw [List.set_append_right _ _ (by simp; omega)]
  simp [Nat.min_eq_left (Nat.le_of_lt hk)]
theorem macAt_len (l : List UInt8) (k : Nat) (hk : k ≤ l.length) (h6 : l.length ≤ 6) : (macAt l k).length = 6 := by simp [macAt]; omega
theorem macAt_all {k : Nat} (l : List UInt8) (h : l.length = k) : macAt l k = macM l := by simp [macAt, macM, ← h]
theorem macAt_zero (l : List UInt8) : macAt l 0 = List.replicate 6 0 := by simp [macAt]

set_option maxHeartbeats 1000000 in
theorem rmac_yes (g : Nat) (A : Option Addr) (n c : Nat) (s : Cst) (w : World) (h : Refr w g A n c s) (hn : n ≤ 140737488355328) :
    Calls Try.prog 16 #[.pointer (some ⟨g, 0, none⟩)] w fun e w' =>
      e = .returned (.agg (bys (macM (takeM s 6).1)).toArray) ∧ Refr w' g A n c (takeM s 6).2 ∧ Kept (One g) w w' := by
  have hlen := takeM_len2 s 6
  have hgl : g < w.heap.size := h.blo.lt
  have hAl := h.byt.lt
  go_enter Try.func16, Try.ntmps16
  go_wp2_with fail
  refine (rtake_yes g A n c s 6 _ (by exact h.kept (((Kept.refl Nil w).alloc _).alloc _) (fun hf => hf) (fun _ _ hf => hf)) hn).mono ?_
  rintro e w1 ⟨v, rfl, ho, hr, hk⟩
  have B0 : Blo w1 w.heap.size 38 (bys (List.replicate 6 0)).toArray := ((Blo.new w 38 (bys (List.replicate 6 0)).toArray).alloc _).kept hk (fun e => absurd (show w.heap.size = g from e) (by omega))
  have B1 : Blo w1 (w.heap.size + 1) 38 (bys (List.replicate 6 0)).toArray := by
    have := (Blo.new (w.alloc (.cells (bys (List.replicate 6 0)).toArray 38)) 38 (bys (List.replicate 6 0)).toArray).kept hk (fun e => absurd (show (w.alloc (.cells (bys (List.replicate 6 0)).toArray 38)).heap.size = g from e) (by simp; omega))
    simpa using this
  have hk1 : Kept (One g) w w1 := (((Kept.refl (One g) w).alloc _).alloc _).same hk
  generalize hG : (takeM s 6).1 = l at *
  obtain ⟨m, hm⟩ : ∃ m, m = l.length := ⟨_, rfl⟩
  rw [← hm] at ho hlen
  obtain ⟨A', c', rfl, hb, hge⟩ := Byt.of_own ho
  have hm6 : m ≤ 6 := by simpa using hlen
  have hmc : m ≤ c' := hb.2.1
  have hcc : c' ≤ 9223372036854775807 := hb.2.2.1
  have HR := Lib.hid hr
  have HK := Lib.hid hk1
  have HG := Lib.hid hG
  have HM := Lib.hid hm
  have HB := Lib.hid hb
  have HGE := Lib.hid hge
  have HA := Lib.hid hAl
  have HB0 := Lib.hid B0
  have HB1 := Lib.hid B1
  clear hr hk h hG hm hb ho hlen B0 B1 hk1 hge hAl
  go_wp2
  go_loopw [5] (fun i wr => ∃ (k : Nat), k ≤ m ∧ i = .int .i64 k ∧ Blo wr (w.heap.size + 1) 38 (bys (macAt l k)).toArray ∧ Blo wr w.heap.size 38 (bys (List.replicate 6 0)).toArray ∧ Byt wr A' m c' l ∧ Refr wr g A n c (takeM s 6).2 ∧ Kept (One g) w wr) (fun i _ => m - (intOf i).toNat)
  case atStart => exact ⟨0, Nat.zero_le _, rfl, by rw [macAt_zero]; exact HB1.out, HB0.out, HB.out, HR.out, HK.out⟩
  case round =>
    obtain ⟨k, hk, rfl, b1, b0, hb, hr, hkp⟩ := hrel
    by_cases hlt : k < m
    · have hkl : k < l.length := by rw [← HM.out]; exact hlt
      have hms := macAt_set l k hkl (by rw [← HM.out]; exact hm6)
      have hml := macAt_len l k (by omega) (by rw [← HM.out]; exact hm6)
      obtain ⟨b, o, rfl, hce⟩ := hb.at hkl
      have hcb : ∃ u, wr.cell? ⟨w.heap.size + 1, k, none⟩ = some u := by
        rw [b1.cell]
        have : k < (bys (macAt l k)).toArray.size := by simp [bys_len, hml]; omega
        exact ⟨_, Array.getElem?_eq_getElem this⟩
      obtain ⟨u, hcb⟩ := hcb
      have hfz := b1.frozen k
      have b1' := b1.set k (.int .u8 (l[k].toNat : Int))
      rw [hms] at b1'
      have hk6 : k < 6 := by omega
      have HB1 := Lib.hid b1'
      have HB0 := Lib.hid (b0.far (p := ⟨w.heap.size + 1, k, none⟩) (by simp) (.int .u8 (l[k].toNat : Int)))
      have KO := Kept.one wr (w.heap.size + 1) k none (.int .u8 (l[k].toNat : Int))
      have HBb := Lib.hid (hb.kept KO (fun i hi hf => by cases hf; have := HGE.out _ hi; simp at this; omega))
      have HRr := Lib.hid (hr.kept KO (fun hf => by cases hf; omega) (fun i hi hf => by cases hf; have := HA.out _ hi; omega))
      have HKr := Lib.hid (hkp.fresh KO (fun i hf => by cases hf; omega))
      clear b1 b0 hb hr hkp hms hml b1' KO
      go_wp2
      go_roundw
      case rel => exact ⟨k + 1, by omega, by go_num, HB1.out, HB0.out, HBb.out, HRr.out, HKr.out⟩
      case measure => simp [intOf]; omega
    · have hkm : k = m := by omega
      subst hkm
      rw [macAt_all l HM.out.symm] at b1
      obtain ⟨x0, x1, x2, x3, x4, x5, hx⟩ := six_of _ (macM_len l (by rw [← HM.out]; exact hm6))
      rw [hx] at b1
      have c0 := b1.cell 0
      have c1 := b1.cell 1
      have c2 := b1.cell 2
      have c3 := b1.cell 3
      have c4 := b1.cell 4
      have c5 := b1.cell 5
      have d0 := b0.cell 0
      have d1 := b0.cell 1
      have d2 := b0.cell 2
      have d3 := b0.cell 3
      have d4 := b0.cell 4
      have d5 := b0.cell 5
      have f0 := b0.frozen 0
      have f1 := b0.frozen 1
      have f2 := b0.frozen 2
      have f3 := b0.frozen 3
      have f4 := b0.frozen 4
      have f5 := b0.frozen 5
      simp [bys] at c0 c1 c2 c3 c4 c5 d0 d1 d2 d3 d4 d5
      have HX := Lib.hid hx
      have HR2 := Lib.hid hr
      have HK2 := Lib.hid hkp
      clear hx b1 b0 hr hkp hb
      go_wp2
      have K2 : Kept (One w.heap.size) wr wr := Kept.refl _ _
      refine bodyPost_ret (v := .agg #[.int .u8 x0.toNat, .int .u8 x1.toNat, .int .u8 x2.toNat, .int .u8 x3.toNat, .int .u8 x4.toNat, .int .u8 x5.toNat]) (by simp [results, Try.results16, go_sem, d0, d1, d2, d3, d4, d5]) rfl ⟨?_, ?_, ?_⟩
      · rw [HG.out, HX.out]
        rfl
      · exact HR2.out.kept ((((((K2.put rfl _).put rfl _).put rfl _).put rfl _).put rfl _).put rfl _) (fun hf => by cases hf; omega) (fun i hi hf => by cases hf; have := HA.out _ hi; omega)
      · exact HK2.out.fresh ((((((K2.put rfl _).put rfl _).put rfl _).put rfl _).put rfl _).put rfl _) (fun i hf => by cases hf; omega)
end Go.Proofs.Ytjfffddaiefggaa
