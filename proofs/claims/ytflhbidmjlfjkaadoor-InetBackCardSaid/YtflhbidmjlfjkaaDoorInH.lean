/- What the package-level variables hold that the library reads; and the small calls of inet on texts: number, masked, counted. Package inet: contracts of Parse, Text, masked, counted, parseBits. -/
import Derived.Test.YtflhbidmjlfjkaaDoorInV
import Derived.Test.YtflhbidmjlfjkaaDoorLib
import Derived.Test.YtflhbidmjlfjkaaDoorQb
import Derived.Test.YtflhbidmjlfjkaaDoorShelf
import Derived.Lib.LaidTab
import Derived.Test.YtflhbidmjlfjkaaDoorRgD
import Derived.Test.YtflhbidmjlfjkaaDoorUpto
namespace Go.Proofs.YtflhbidmjlfjkaaDoor
open Go.RowKit Go.Sort
set_option linter.unusedVariables false

/-- The library's variables. -/
structure Gl (w : World) : Prop where
  syn : ∃ te pe, w.cell? ⟨1, 0, none⟩ = some (.iface te pe)
  ran : ∃ te pe, w.cell? ⟨2, 0, none⟩ = some (.iface te pe)
  max : ∃ m, w.cell? ⟨0, 0, none⟩ = some (.int .i64 m)
  pow : Lib.TabIs Tryd.prog w "internal/strconv.uint64pow10" .u64 Lib.pow10Tab
theorem tab_kept {w w' : World} {nm : String} {k : IntKind} {zs : List Int} (h : Lib.TabIs Tryd.prog w nm k zs) (q : Kept Nil w w') : Lib.TabIs Tryd.prog w' nm k zs := by
  unfold Lib.TabIs World.var? at h ⊢
  cases hg : Tryd.prog.globalNamed nm with
  | none => rw [hg] at h; cases h
  | some g =>
    rw [hg] at h
    simp only [Option.bind_some] at h ⊢
    have hl : g < w.heap.size := by
      rcases Nat.lt_or_ge g w.heap.size with h1 | h1
      · exact h1
      · rw [Array.getElem?_eq_none h1] at h
        cases h
    rw [q.block g hl (fun hf => hf)]
    exact h
theorem Gl.kept {w w' : World} (h : Gl w) (k : Kept Nil w w') : Gl w' := by
  obtain ⟨⟨a, b, h1⟩, ⟨c, d, h2⟩, ⟨m, h3⟩, h4⟩ := h
  exact ⟨⟨a, b, k.cell h1 (fun hf => hf)⟩, ⟨c, d, k.cell h2 (fun hf => hf)⟩, ⟨m, k.cell h3 (fun hf => hf)⟩, tab_kept h4 k⟩
theorem kept_bw (w w' : World) (t : TypeId) (s : ByteArray) (h : w' = w ∨ w' = Lib.bytesWorld w t s) : Kept Nil w w' := by
  rcases h with rfl | rfl
  · exact Kept.refl _ _
  · exact Kept.of_below (Lib.bytesWorld_below w t s)
/-- What an index into a text reads. -/
theorem idxI (s : ByteArray) (k : Nat) (c : UInt8) (h : s.data.toList[k]? = some c) (w : World) : (Instr.index 9 (.string s) (.int .i64 (k : Int))).run Tryd.prog w = .ok (.int .u8 (c.toNat : Int)) w := by
  have hk : k < s.size := by
    have := (List.getElem?_eq_some_iff.1 h).1
    rw [Lib.size_eq]
    exact this
  have hc : s[k]'hk = c := by
    have h2 := (List.getElem?_eq_some_iff.1 h).2
    rw [← h2]
    rfl
  simp [Instr.index, asIntOf, run_underlying Tryd.underlying9, hk, hc]
def numV (l : List UInt8) : Nat × Bool := match numT l with | some v => (v, true) | none => (0, false)
set_option maxRecDepth 100000 in
set_option maxHeartbeats 2000000 in
theorem number_yes (s : ByteArray) (hm : s.size ≤ 1099511627776) (w : World) (hG : Gl w) : Calls Tryd.prog 52 #[.string s] w fun e w' => e = .returned (.tuple #[.int .u8 ((numV s.data.toList).1 : Int), .bool (numV s.data.toList).2]) ∧ Kept Nil w w' := by
  have hsz : s.data.toList.length = s.size := by rw [Lib.size_eq]
  rcases hp : Lib.parseUintB 8 s.data.toList with u | _ | _
  · have HC := Lib.hid (fun w => Tryd.strconv_ParseUint_10_at8_ok s (by omega) u hp w)
    have hne : s.data.toList ≠ [] := fun h0 => by rw [h0] at hp; simp [Lib.parseUintB] at hp
    have hpos : 0 < s.size := by rw [← hsz]; exact List.length_pos_iff.2 hne
    have hh : s.data.toList[0]? = some (s.data.toList.headD 0) := by
      cases hl : s.data.toList with
      | nil => exact absurd hl hne
      | cons a r => rfl
    have HI := Lib.hid (idxI s 0 _ hh)
    by_cases h1 : s.size ≤ 1
    · have hn := num_of_pu hp (.inl (by omega))
      have h255 := (pu_of_num hn).2.1
      have HN := Lib.hid (show numV s.data.toList = (u, true) by unfold numV; rw [hn])
      clear hp hsz hG hne hh hn hpos
      go_enter Tryd.func52, Tryd.ntmps52
      go_wp2_with (fail)
      refine (HC.out _).mono ?_
      rintro e w1 ⟨rfl, hb⟩
      have HK := Lib.hid (kept_bw _ _ _ _ hb)
      clear hb
      go_wp2
      go_ret2
      exact ⟨by rw [HN.out]; go_num, HK.out⟩
    · obtain ⟨h0, hh0⟩ : ∃ x, s.data.toList.headD 0 = x := ⟨_, rfl⟩
      rw [hh0] at HI
      have hix : ∀ w, (Instr.index 9 (.string s) (.int .i64 0)).run Tryd.prog w = .ok (.int .u8 (h0.toNat : Int)) w := HI.out
      by_cases h48 : h0 = 48
      · have HN := Lib.hid (show numV s.data.toList = (0, false) by unfold numV; rw [num_nope (.inr ⟨by omega, by rw [hh0, h48]⟩)])
        have hq : ((h0.toNat : Int) == 48) = true := by rw [h48]; rfl
        clear hp hsz hG hne hh hpos HI hh0 h48
        go_enter Tryd.func52, Tryd.ntmps52
        go_wp2_with (fail)
        refine (HC.out _).mono ?_
        rintro e w1 ⟨rfl, hb⟩
        have HK := Lib.hid (kept_bw _ _ _ _ hb)
        clear hb
        go_wp2
        go_ret2
        exact ⟨by rw [HN.out]; rfl, HK.out⟩
      · have hn := num_of_pu hp (.inr (by rw [hh0]; exact h48))
        have h255 := (pu_of_num hn).2.1
        have HN := Lib.hid (show numV s.data.toList = (u, true) by unfold numV; rw [hn])
        have hq : ((h0.toNat : Int) == 48) = false := by rw [beq_eq_false_iff_ne]; intro h; exact h48 (UInt8.toNat_inj.1 (show h0.toNat = 48 by omega))
        clear hp hsz hG hne hh hn hpos HI hh0 h48
        go_enter Tryd.func52, Tryd.ntmps52
        go_wp2_with (fail)
        refine (HC.out _).mono ?_
        rintro e w1 ⟨rfl, hb⟩
        have HK := Lib.hid (kept_bw _ _ _ _ hb)
        clear hb
        go_wp2
        go_ret2
        exact ⟨by rw [HN.out]; go_num, HK.out⟩
  · obtain ⟨te, pe, hc⟩ := hG.syn
    have HN := Lib.hid (show numV s.data.toList = (0, false) by unfold numV; rw [num_nope (.inl (fun u h => by rw [hp] at h; cases h))])
    have HC := Lib.hid (fun w hv => Tryd.strconv_ParseUint_10_at8_syntax s (by omega) hp (.iface te pe) w hv (.inr ⟨te, pe, rfl⟩))
    clear hp hsz hG
    go_enter Tryd.func52, Tryd.ntmps52
    go_wp2_with (fail)
    refine (HC.out _ hc).mono ?_
    rintro e w1 ⟨N, rfl, -, -, hb⟩
    have HK := Lib.hid (Kept.of_below hb)
    clear hb hc
    go_wp2
    go_ret2
    exact ⟨by rw [HN.out]; rfl, HK.out⟩
  · obtain ⟨te, pe, hc⟩ := hG.ran
    have HN := Lib.hid (show numV s.data.toList = (0, false) by unfold numV; rw [num_nope (.inl (fun u h => by rw [hp] at h; cases h))])
    have HC := Lib.hid (fun w hv => Tryd.strconv_ParseUint_10_at8_range s (by omega) hp (.iface te pe) w hv (.inr ⟨te, pe, rfl⟩))
    clear hp hsz hG
    go_enter Tryd.func52, Tryd.ntmps52
    go_wp2_with (fail)
    refine (HC.out _ hc).mono ?_
    rintro e w1 ⟨N, rfl, -, -, hb⟩
    have HK := Lib.hid (Kept.of_below hb)
    clear hb hc
    go_wp2
    go_ret2
    exact ⟨by rw [HN.out]; rfl, HK.out⟩
theorem num_lt (l : List UInt8) : (numV l).1 ≤ 255 := by
  unfold numV
  split
  · rename_i v h; exact (pu_of_num h).2.1
  · exact Nat.zero_le _
end Go.Proofs.YtflhbidmjlfjkaaDoor
namespace Go.Proofs.YtflhbidmjlfjkaaDoor
open Go.RowKit Go.Sort
set_option linter.unusedVariables false

theorem eval_snoc (ps : List (List UInt8)) (k acc : Nat) (hk : k < ps.length) (h : evalM 0 ps = evalM acc (ps.drop k)) : evalM 0 ps = match numT ps[k] with | some v => evalM (acc * 256 + v) (ps.drop (k + 1)) | none => none := by
  rw [h, List.drop_eq_getElem_cons hk]
  rfl
theorem join_u32 (a b : Nat) (ha : a < 16777216) (hb : b < 256) : bits .or .u32 (IntKind.u32.wrap ((a : Int) * 256)) (IntKind.u32.wrap (b : Int)) = ((a * 256 + b : Nat) : Int) := by
  rw [IntWalk.u32_in _ (by omega), IntWalk.u32_in (b : Int) (by omega)]
  have e : ((a : Int) * 256) = ((a * 256 : Nat) : Int) := by omega
  rw [e, u32_or_nat _ _ (by omega) (by omega), nat_join 8 _ _ (by omega) (by omega)]
def resM : Option Nat → Nat × Int
  | some n => (n, 0)
  | none => (0, 5)
theorem parse_res (s : List UInt8) : parseM s = resM (fourT s) := by unfold parseM resM; cases fourT s <;> rfl
theorem cellsOf_at (ps : List ByteArray) (N k : Nat) (hk : k < ps.length) (hN : ps.length ≤ N) : (Lib.cellsOf ps N)[k]? = some (.string ps[k]) := by
  unfold Lib.cellsOf
  rw [List.getElem?_toArray, List.getElem?_append_left (by simpa using hk)]
  simp [hk]
set_option maxRecDepth 100000 in
set_option maxHeartbeats 4000000 in
theorem iparse_yes (s : ByteArray) (hm : s.size ≤ 1000000) (w : World) (hG : Gl w) : Calls Tryd.prog 21 #[.string s] w fun e w' => e = .returned (.tuple #[.int .u32 ((parseM s.data.toList).1 : Int), .int .i64 (parseM s.data.toList).2]) ∧ Kept Nil w w' := by
  obtain ⟨m, hmx⟩ := hG.max
  have hsz : s.data.toList.length = s.size := by rw [Lib.size_eq]
  have HSP := Lib.hid (Tryd.strings_SplitN s ⟨#[46]⟩ 5 m w (by omega) hmx (by decide) (by omega) (by omega))
  have hdata : (Lib.splitB ⟨#[46]⟩ 0 (min 5 (s.size + 1) - 1) s).map (·.data.toList) = splitM 4 s.data.toList := by
    rw [Lib.splitB_data, show (⟨#[46]⟩ : ByteArray).data.toList = [dot] from rfl, split_eq, ← hsz, split_four]
  have hlen5 := Lib.splitB_length_le ⟨#[46]⟩ 0 (min 5 (s.size + 1) - 1) s
  have hpsz : ∀ p ∈ Lib.splitB ⟨#[46]⟩ 0 (min 5 (s.size + 1) - 1) s, p.size ≤ 1000000 := by
    have key : ∀ (k : Nat) (t : ByteArray), t.size ≤ 1000000 → ∀ p ∈ Lib.splitB ⟨#[46]⟩ 0 k t, p.size ≤ 1000000 := by
      intro k
      induction k with
      | zero => intro t ht p hp; simp [Lib.splitB] at hp; subst hp; exact ht
      | succ k ih =>
        intro t ht p hp
        unfold Lib.splitB at hp
        split at hp
        · simp at hp; subst hp; exact ht
        · rcases List.mem_cons.1 hp with rfl | hp
          · rw [ByteArray.size_extract]; omega
          · exact ih _ (by rw [ByteArray.size_extract]; omega) p hp
    exact key _ s hm
  generalize Lib.splitB ⟨#[46]⟩ 0 (min 5 (s.size + 1) - 1) s = ps at *
  obtain ⟨N, hN⟩ : ∃ N, min 5 (s.size + 1) = N := ⟨_, rfl⟩
  rw [hN] at HSP
  have hNl : ps.length ≤ N := by omega
  have hN5 : N ≤ 5 := by omega
  have hpl : ps.length = (splitM 4 s.data.toList).length := by rw [← hdata, List.length_map]
  have hpm : ∀ k (h : k < ps.length) (h2 : k < (splitM 4 s.data.toList).length), (splitM 4 s.data.toList)[k] = ps[k].data.toList := by
    intro k h h2
    have : (ps.map (·.data.toList))[k]? = (splitM 4 s.data.toList)[k]? := by rw [hdata]
    rw [List.getElem?_map, List.getElem?_eq_getElem h, List.getElem?_eq_getElem h2] at this
    simpa using this.symm
  have hp4 : parseM s.data.toList = resM (if (splitM 4 s.data.toList).length = 4 then evalM 0 (splitM 4 s.data.toList) else none) := by rw [parse_res, four_split]
  generalize splitM 4 s.data.toList = qs at *
  obtain ⟨pr, hpr⟩ : ∃ pr, parseM s.data.toList = pr := ⟨_, rfl⟩
  rw [hpr] at hp4 ⊢
  have HP4 := Lib.hid hp4
  have HPM := Lib.hid hpm
  have HGL := Lib.hid hG
  have HPZ := Lib.hid hpsz
  clear hdata hp4 hpm hpr hG hmx hsz hlen5 hN hpsz
  go_enter Tryd.func21, Tryd.ntmps21
  go_wp2_with (fail)
  refine (HSP.out).mono ?_
  rintro e w1 ⟨rfl, hw1⟩
  have HB := Lib.hid (show Blo w1 w.heap.size 9 (Lib.cellsOf ps N) by rw [hw1]; exact Blo.new w _ _)
  have HK := Lib.hid (show Kept Nil w w1 by rw [hw1]; exact (Kept.refl Nil w).alloc _)
  have hgl := HB.out.lt
  have HGS := Lib.hid hgl
  obtain ⟨g, hg⟩ : ∃ g, w.heap.size = g := ⟨_, rfl⟩
  rw [hg] at HB hgl ⊢
  clear hw1 hg HSP hgl
  obtain ⟨n, hn⟩ : ∃ n, ps.length = n := ⟨_, rfl⟩
  rw [hn] at hNl hpl ⊢
  have HN := Lib.hid hn
  clear hn
  by_cases h4 : n = 4
  · subst h4
    have HQ := Lib.hid (show pr = resM (evalM 0 qs) by rw [HP4.out, if_pos hpl.symm])
    have HPL := Lib.hid hpl
    clear hpl
    go_wp2
    go_loopw [5, 17] (fun x i wr => ∃ k acc : Nat, k ≤ 4 ∧ i = .int .i64 (k : Int) ∧ x = .int .u32 (acc : Int) ∧ acc < 256 ^ k ∧ Hid (evalM 0 qs = evalM acc (qs.drop k)) ∧ Hid (Kept Nil w wr) ∧ Hid (Blo wr g 9 (Lib.cellsOf ps N))) (fun _ i _ => 4 - (intOf i).toNat)
    case atStart => exact ⟨0, 0, by omega, rfl, rfl, by decide, Lib.hid rfl, HK, HB⟩
    case round =>
      obtain ⟨k, acc, hk, rfl, rfl, hacc, HE, HK1, HB1⟩ := hrel
      by_cases hlt : k < 4
      · have hkp : k < ps.length := by rw [HN.out]; exact hlt
        have hkq : k < qs.length := by rw [← HPL.out]; exact hlt
        have hc := HB1.out.cell k
        rw [cellsOf_at ps N k hkp (by rw [HN.out]; exact hNl)] at hc
        have HNU := Lib.hid (fun w h => number_yes ps[k] (by have := HPZ.out _ (List.getElem_mem hkp); omega) w h)
        have hev := eval_snoc qs k acc hkq HE.out
        rw [HPM.out k hkp hkq] at hev
        have hb255 := num_lt ps[k].data.toList
        generalize ps[k] = p at *
        have hacc3 : acc < 16777216 := Nat.lt_of_lt_of_le hacc (show 256 ^ k ≤ 16777216 from Nat.le_trans (Nat.pow_le_pow_right (by decide) (show k ≤ 3 by omega)) (by decide))
        have HACC := Lib.hid hacc
        unfold numV at HNU hb255
        cases hnt : numT p.data.toList with
        | none =>
          rw [hnt] at HNU hev
          have HEV := Lib.hid hev
          have HR := Lib.hid (show pr = (0, 5) by rw [HQ.out, HEV.out]; rfl)
          clear hev hnt hb255 hacc
          go_wp2_with (fail)
          refine (HNU.out _ (HGL.out.kept HK1.out)).mono ?_
          rintro e w2 ⟨rfl, hk2⟩
          have HK2 := Lib.hid (HK1.out.then hk2)
          clear hk2
          go_wp2
          go_ret2
          exact ⟨by rw [HR.out]; rfl, HK2.out⟩
        | some v =>
          rw [hnt] at HNU hev hb255
          simp only at HNU hev hb255
          have HEV := Lib.hid hev
          have hj := join_u32 acc v hacc3 (by omega)
          have hjw : IntKind.u32.wrap (v : Int) = (v : Int) := IntWalk.u32_in _ (by omega)
          have HJ := Lib.hid hj
          have HJ2 := Lib.hid (show bits .or .u32 ((acc : Int) * 256) (v : Int) = ((acc * 256 + v : Nat) : Int) by rw [← hj, hjw, IntWalk.u32_in _ (by omega)])
          have HV := Lib.hid hb255
          clear hev hnt hacc hj
          go_wp2_with (fail)
          refine (HNU.out _ (HGL.out.kept HK1.out)).mono ?_
          rintro e w2 ⟨rfl, hk2⟩
          have HK2 := Lib.hid (HK1.out.then hk2)
          have HB2 := Lib.hid (HB1.out.kept hk2 (fun hf => hf))
          clear hk2
          go_wp2
          go_roundw
          case rel => exact ⟨k + 1, acc * 256 + v, by omega, by go_num, by first | rw [HJ.out] | rw [HJ2.out], by have h1 := HACC.out; have h2 := HV.out; rw [Nat.pow_succ]; omega, HEV, HK2, HB2⟩
          case measure => simp [intOf]; omega
      · have hk4 : k = 4 := by omega
        subst hk4
        have HR := Lib.hid (show pr = (acc, 0) by rw [HQ.out, HE.out, List.drop_of_length_le (by rw [← HPL.out]; exact Nat.le_refl 4)]; rfl)
        clear hacc
        go_wp2
        go_ret2
        exact ⟨by rw [HR.out]; rfl, HK1.out⟩
  · have HR := Lib.hid (show pr = (0, 5) by rw [HP4.out, if_neg (by rw [← hpl]; exact h4)]; rfl)
    have h4' : ((n : Int) == 4) = false := by rw [beq_eq_false_iff_ne]; omega
    clear hpl h4
    go_wp2
    go_ret2
    exact ⟨by rw [HR.out]; rfl, HK.out⟩

theorem mask_nat (x j : Nat) (hx : x < 4294967296) : x &&& (4294967295 * 2 ^ j % 4294967296) = x / 2 ^ j * 2 ^ j := by
  apply Nat.eq_of_testBit_eq
  intro i
  rw [show 4294967296 = 2 ^ 32 from rfl, show 4294967295 = 2 ^ 32 - 1 from rfl]
  simp only [Nat.testBit_and, Nat.testBit_mod_two_pow, Nat.testBit_mul_two_pow, Nat.testBit_div_two_pow]
  rw [Nat.testBit_two_pow_sub_one]
  by_cases h1 : j ≤ i
  · have e : i - j + j = i := by omega
    by_cases h2 : i < 32
    · have : i - j < 32 := by omega
      simp [h1, h2, this, e]
    · have : x.testBit i = false := Nat.testBit_lt_two_pow (Nat.lt_of_lt_of_le (show x < 2 ^ 32 from hx) (Nat.pow_le_pow_right (by decide) (by omega)))
      simp [h1, h2, this, e]
  · simp [h1]
theorem mask_and (x K : Nat) (hx : x < 4294967296) (hK : K ≤ 32) : bits .and .u32 (x : Int) (4294967295 * 2 ^ (32 - K) % 4294967296) = (maskM x K : Int) := by
  have e2 : (4294967295 * 2 ^ (32 - K) : Int) % 4294967296 = ((4294967295 * 2 ^ (32 - K) % 4294967296 : Nat) : Int) := by simp
  rw [e2, u32_and_nat _ _ hx (Nat.mod_lt _ (by decide)), mask_nat x _ hx]
  rfl
theorem imask_yes (ip : Nat) (hip : ip < 4294967296) (K : Nat) (hK : K ≤ 32) (w : World) : Calls Tryd.prog 55 #[.int .u32 (ip : Int), .int .i64 (K : Int)] w fun e w' => e = .returned (.int .u32 (maskM ip K : Int)) ∧ w = w' := by
  have HM := Lib.hid (mask_and ip K hip hK)
  go_enter Tryd.func55, Tryd.ntmps55
  go_wp2
  go_ret
  exact ⟨by rw [← HM.out]; rfl, rfl⟩
theorem icount_yes (a : Nat) (bits : Int) (h : -9223372036854775808 ≤ bits ∧ bits ≤ 9223372036854775807) (w : World) : Calls Tryd.prog 59 #[.agg #[.int .u32 (a : Int), .int .i64 bits]] w fun e w' => e = .returned (.int .i64 (clipM bits : Int)) ∧ Kept Nil w w' := by
  have hc : min (max bits 0) 32 = (clipM bits : Int) := by unfold clipM; split; omega; split <;> omega
  have HC := Lib.hid hc
  have HK := Lib.hid ((Kept.refl Nil w).alloc (.cells #[.int .u32 (a : Int), .int .i64 bits] 46))
  clear hc
  go_enter Tryd.func59, Tryd.ntmps59
  go_wp2
  go_ret
  exact ⟨by rw [← HC.out]; rfl, HK.out⟩
end Go.Proofs.YtflhbidmjlfjkaaDoor
