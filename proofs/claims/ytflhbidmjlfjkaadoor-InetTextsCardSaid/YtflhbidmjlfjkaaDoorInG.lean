/- What the package-level variables hold that the library reads; and the small calls of inet on texts: number, masked, counted. -/
import Derived.Test.YtflhbidmjlfjkaaDoorInV
import Derived.Test.YtflhbidmjlfjkaaDoorLib
import Derived.Test.YtflhbidmjlfjkaaDoorQb
import Derived.Test.YtflhbidmjlfjkaaDoorShelf
import Derived.Lib.LaidTab
namespace Go.Proofs.YtflhbidmjlfjkaaDoor
open Go.RowKit Go.Sort
set_option linter.unusedVariables false

/-- The library's variables. -/
structure Gl (w : World) : Prop where
  syn : ∃ te pe, w.cell? ⟨1, 0, none⟩ = some (.iface te pe)
  ran : ∃ te pe, w.cell? ⟨2, 0, none⟩ = some (.iface te pe)
  max : ∃ m, w.cell? ⟨0, 0, none⟩ = some (.int .i64 m)
  pow : Lib.TabIs Tryd.prog w "internal/strconv.uint64pow10" .u64 Lib.pow10Tab
theorem tab_kept {w w' : World} {nm : String} {k : IntKind} {zs : List Int} (h : Lib.TabIs Tryd.prog w nm k zs) (q : Kept Nil w w') : Lib.TabIs Tryd.prog w' nm k zs := by
  unfold Lib.TabIs World.var? at h ⊢
  cases hg : Tryd.prog.globalNamed nm with
  | none => rw [hg] at h; cases h
  | some g =>
    rw [hg] at h
    simp only [Option.bind_some] at h ⊢
    have hl : g < w.heap.size := by
      rcases Nat.lt_or_ge g w.heap.size with h1 | h1
      · exact h1
      · rw [Array.getElem?_eq_none h1] at h
        cases h
    rw [q.block g hl (fun hf => hf)]
    exact h
theorem Gl.kept {w w' : World} (h : Gl w) (k : Kept Nil w w') : Gl w' := by
  obtain ⟨⟨a, b, h1⟩, ⟨c, d, h2⟩, ⟨m, h3⟩, h4⟩ := h
  exact ⟨⟨a, b, k.cell h1 (fun hf => hf)⟩, ⟨c, d, k.cell h2 (fun hf => hf)⟩, ⟨m, k.cell h3 (fun hf => hf)⟩, tab_kept h4 k⟩
theorem kept_bw (w w' : World) (t : TypeId) (s : ByteArray) (h : w' = w ∨ w' = Lib.bytesWorld w t s) : Kept Nil w w' := by
  rcases h with rfl | rfl
  · exact Kept.refl _ _
  · exact Kept.of_below (Lib.bytesWorld_below w t s)
/-- What an index into a text reads. -/
theorem idxI (s : ByteArray) (k : Nat) (c : UInt8) (h : s.data.toList[k]? = some c) (w : World) : (Instr.index 9 (.string s) (.int .i64 (k : Int))).run Tryd.prog w = .ok (.int .u8 (c.toNat : Int)) w := by
  have hk : k < s.size := by
    have := (List.getElem?_eq_some_iff.1 h).1
    rw [Lib.size_eq]
    exact this
  have hc : s[k]'hk = c := by
    have h2 := (List.getElem?_eq_some_iff.1 h).2
    rw [← h2]
    rfl
  simp [Instr.index, asIntOf, run_underlying Tryd.underlying9, hk, hc]
def numV (l : List UInt8) : Nat × Bool := match numT l with | some v => (v, true) | none => (0, false)
set_option maxRecDepth 100000 in
set_option maxHeartbeats 2000000 in
theorem number_yes (s : ByteArray) (hm : s.size ≤ 1099511627776) (w : World) (hG : Gl w) : Calls Tryd.prog 52 #[.string s] w fun e w' => e = .returned (.tuple #[.int .u8 ((numV s.data.toList).1 : Int), .bool (numV s.data.toList).2]) ∧ Kept Nil w w' := by
  have hsz : s.data.toList.length = s.size := by rw [Lib.size_eq]
  rcases hp : Lib.parseUintB 8 s.data.toList with u | _ | _
  · have HC := Lib.hid (fun w => Tryd.strconv_ParseUint_10_at8_ok s (by omega) u hp w)
    have hne : s.data.toList ≠ [] := fun h0 => by rw [h0] at hp; simp [Lib.parseUintB] at hp
    have hpos : 0 < s.size := by rw [← hsz]; exact List.length_pos_iff.2 hne
    have hh : s.data.toList[0]? = some (s.data.toList.headD 0) := by
      cases hl : s.data.toList with
      | nil => exact absurd hl hne
      | cons a r => rfl
    have HI := Lib.hid (idxI s 0 _ hh)
    by_cases h1 : s.size ≤ 1
    · have hn := num_of_pu hp (.inl (by omega))
      have h255 := (pu_of_num hn).2.1
      have HN := Lib.hid (show numV s.data.toList = (u, true) by unfold numV; rw [hn])
      clear hp hsz hG hne hh hn hpos
      go_enter Tryd.func52, Tryd.ntmps52
      go_wp2_with (fail)
      refine (HC.out _).mono ?_
      rintro e w1 ⟨rfl, hb⟩
      have HK := Lib.hid (kept_bw _ _ _ _ hb)
      clear hb
      go_wp2
      go_ret2
      exact ⟨by rw [HN.out]; go_num, HK.out⟩
    · obtain ⟨h0, hh0⟩ : ∃ x, s.data.toList.headD 0 = x := ⟨_, rfl⟩
      rw [hh0] at HI
      have hix : ∀ w, (Instr.index 9 (.string s) (.int .i64 0)).run Tryd.prog w = .ok (.int .u8 (h0.toNat : Int)) w := HI.out
      by_cases h48 : h0 = 48
      · have HN := Lib.hid (show numV s.data.toList = (0, false) by unfold numV; rw [num_nope (.inr ⟨by omega, by rw [hh0, h48]⟩)])
        have hq : ((h0.toNat : Int) == 48) = true := by rw [h48]; rfl
        clear hp hsz hG hne hh hpos HI hh0 h48
        go_enter Tryd.func52, Tryd.ntmps52
        go_wp2_with (fail)
        refine (HC.out _).mono ?_
        rintro e w1 ⟨rfl, hb⟩
        have HK := Lib.hid (kept_bw _ _ _ _ hb)
        clear hb
        go_wp2
        go_ret2
        exact ⟨by rw [HN.out]; rfl, HK.out⟩
      · have hn := num_of_pu hp (.inr (by rw [hh0]; exact h48))
        have h255 := (pu_of_num hn).2.1
        have HN := Lib.hid (show numV s.data.toList = (u, true) by unfold numV; rw [hn])
        have hq : ((h0.toNat : Int) == 48) = false := by rw [beq_eq_false_iff_ne]; intro h; exact h48 (UInt8.toNat_inj.1 (show h0.toNat = 48 by omega))
        clear hp hsz hG hne hh hn hpos HI hh0 h48
        go_enter Tryd.func52, Tryd.ntmps52
        go_wp2_with (fail)
        refine (HC.out _).mono ?_
        rintro e w1 ⟨rfl, hb⟩
        have HK := Lib.hid (kept_bw _ _ _ _ hb)
        clear hb
        go_wp2
        go_ret2
        exact ⟨by rw [HN.out]; go_num, HK.out⟩
  · obtain ⟨te, pe, hc⟩ := hG.syn
    have HN := Lib.hid (show numV s.data.toList = (0, false) by unfold numV; rw [num_nope (.inl (fun u h => by rw [hp] at h; cases h))])
    have HC := Lib.hid (fun w hv => Tryd.strconv_ParseUint_10_at8_syntax s (by omega) hp (.iface te pe) w hv (.inr ⟨te, pe, rfl⟩))
    clear hp hsz hG
    go_enter Tryd.func52, Tryd.ntmps52
    go_wp2_with (fail)
    refine (HC.out _ hc).mono ?_
    rintro e w1 ⟨N, rfl, -, -, hb⟩
    have HK := Lib.hid (Kept.of_below hb)
    clear hb hc
    go_wp2
    go_ret2
    exact ⟨by rw [HN.out]; rfl, HK.out⟩
  · obtain ⟨te, pe, hc⟩ := hG.ran
    have HN := Lib.hid (show numV s.data.toList = (0, false) by unfold numV; rw [num_nope (.inl (fun u h => by rw [hp] at h; cases h))])
    have HC := Lib.hid (fun w hv => Tryd.strconv_ParseUint_10_at8_range s (by omega) hp (.iface te pe) w hv (.inr ⟨te, pe, rfl⟩))
    clear hp hsz hG
    go_enter Tryd.func52, Tryd.ntmps52
    go_wp2_with (fail)
    refine (HC.out _ hc).mono ?_
    rintro e w1 ⟨N, rfl, -, -, hb⟩
    have HK := Lib.hid (Kept.of_below hb)
    clear hb hc
    go_wp2
    go_ret2
    exact ⟨by rw [HN.out]; rfl, HK.out⟩
theorem num_lt (l : List UInt8) : (numV l).1 ≤ 255 := by
  unfold numV
  split
  · rename_i v h; exact (pu_of_num h).2.1
  · exact Nat.zero_le _
end Go.Proofs.YtflhbidmjlfjkaaDoor
