/- Package trans: contract of Text. -/
import Derived.Test.YthjbabkmjmfmjaaDoorTrM
import Derived.Test.YthjbabkmjmfmjaaDoorShelf
import Derived.Laws.AppendOwn
namespace Go.Proofs.YthjbabkmjmfmjaaDoor
open Go.RowKit Go.Sort
set_option linter.unusedVariables false

/-- The flags that are set, from the lowest on, below the k-th. -/
def toldL (f k : Nat) : List Nat := (List.range k).filter fun j => f / 2 ^ j % 2 == 1
theorem toldL_succ (f k : Nat) : toldL f (k + 1) = toldL f k ++ (if f / 2 ^ k % 2 = 1 then [k] else []) := by
  unfold toldL
  rw [List.range_succ, List.filter_append]
  congr 1
  by_cases h : f / 2 ^ k % 2 = 1 <;> simp [h]
theorem toldL_len (f k : Nat) : (toldL f k).length ≤ k := by
  unfold toldL
  exact Nat.le_trans (List.length_filter_le _ _) (by simp)
set_option maxRecDepth 100000 in
theorem told_is : ∀ f : Fin 256, (toldL f.val 8 = [] → flagT f.val = [45]) ∧ (toldL f.val 8 ≠ [] → Lib.join ((toldL f.val 8).map flagAt) [44] = flagT f.val) ∧ (flagT f.val).length ≤ 40 := by decide +kernel
def nmV (l : List Nat) : List Value := l.map fun k => .string (nmS k)
theorem nmV_app (a b : List Nat) : nmV (a ++ b) = nmV a ++ nmV b := by simp [nmV]
theorem str_own {w : World} {B e n : Nat} {v : Value} {xs : List Value} (h : w.ownsRow B e 1 v n xs) : (v = .slice none 0 0 ∧ n = 0 ∧ xs = []) ∨ ∃ g c, v = .slice (some ⟨g, 0, none⟩) n c ∧ n ≤ c ∧ g < w.heap.size ∧ xs.length = n ∧ ∀ j u, xs[j]? = some u → w.cell? ⟨g, 0 + j, none⟩ = some u := by
  obtain ⟨h1, h2⟩ := h
  have hl : xs.length = n := by simpa using h1
  rcases h2 with ⟨rfl, rfl⟩ | ⟨g, cap, cur, rfl, hb, hg, hnc, hm, hs, ht⟩
  · exact .inl ⟨rfl, rfl, List.eq_nil_of_length_eq_zero hl⟩
  · refine .inr ⟨g, cap, rfl, hnc, (Array.getElem?_eq_some_iff.1 hg).1, hl, fun j u hu => ?_⟩
    have hB : Blo w g e cur := hg
    rw [Nat.zero_add, hB.cell]
    rw [← ht, List.getElem?_take] at hu
    split at hu
    · simpa using hu
    · cases hu
theorem infStr : (Tryd.prog.info? 9).map (fun i => (i.zero, i.size, i.bytes)) = some (some (.string ⟨#[]⟩), 1, 16) := by kernel_rfl
theorem one_new (w : World) (T : TypeId) (u : Value) (s : Nat) (hs : s = w.heap.size) : ∀ j v, [u][j]? = some v → (w.alloc (.cells #[u] T)).cell? ((⟨s, 0, none⟩ : Addr).add j) = some v := by
  subst hs
  intro j v h
  match j with
  | 0 =>
    have e : u = v := by simpa using h
    subst e
    rw [addr_add]
    exact (Blo.new w T #[u]).cell 0
  | j + 1 => simp at h
theorem bit_and (f k : Nat) (hf : f < 256) (hk : k < 8) : (f &&& 2 ^ k) = 0 ↔ f / 2 ^ k % 2 = 0 := (bit_or ⟨f, hf⟩ ⟨k, hk⟩).2.2
set_option maxRecDepth 100000 in
set_option maxHeartbeats 4000000 in
theorem ttext_yes (f : Nat) (hf : f < 256) (w : World) (hN : Nm w) : Calls Tryd.prog 32 #[.int .u8 (f : Int)] w fun e w' => e = .returned (.string ⟨(flagT f).toArray⟩) ∧ Kept Nil w w' := by
  obtain ⟨i0, hi, hz0, hz1, hz2⟩ := info_parts infStr
  have HN := Lib.hid hN
  have HIX := Lib.hid nm_at
  have HTI := Lib.hid (told_is ⟨f, hf⟩)
  clear hN
  go_enter Tryd.func32, Tryd.ntmps32
  go_wp2_with (first
    | (refine wpList_ld rfl _ (.global 0) rfl 0 0 rfl namesV HN.out _ Tryd.underlying111 rfl infNm ?_; simp only [Act.put, List.setIfInBounds_toArray, List.set_cons_succ, List.set_cons_zero])
    | fail)
  go_loopw [3, 7] (fun v i wr => ∃ k : Nat, k ≤ 8 ∧ i = .int .i64 (k : Int) ∧ Hid (wr.ownsRow w.heap.size 9 1 v (toldL f k).length (nmV (toldL f k))) ∧ Hid (Kept Nil w wr)) (fun _ i _ => 8 - (intOf i).toNat)
  case atStart => exact ⟨0, by omega, rfl, Lib.hid (World.ownsRow_nil _ _ _ _), Lib.hid (Kept.refl _ _)⟩
  case round =>
    obtain ⟨k, hk, rfl, HO, HK⟩ := hrel
    by_cases hlt : k < 8
    · have hix := HIX.out k hlt
      have hp := pow_256 k hlt
      have hba := bit_and f k hf hlt
      have hs := toldL_succ f k
      obtain ⟨P, hP⟩ : ∃ P, 2 ^ k = P := ⟨_, rfl⟩
      have hPi : (2 : Int) ^ k % 256 = (P : Int) := by
        have h2 := Int.natCast_pow 2 k
        rw [hP] at h2 hp
        have h3 : (P : Int) = (2 : Int) ^ k := h2
        rw [← h3]
        omega
      rw [hP] at hp hba hs
      have hand := and_pow f P hf hp.2
      obtain ⟨Q, hQ⟩ : ∃ Q, f &&& P = Q := ⟨_, rfl⟩
      rw [hQ] at hand hba
      have HS := Lib.hid hs
      by_cases hc : f / P % 2 = 1
      · have hQz : ((Q : Int) != 0) = true := by simp; omega
        have HS2 := Lib.hid (show toldL f (k + 1) = toldL f k ++ [k] by rw [HS.out, if_pos hc])
        have HLN := Lib.hid (toldL_len f k)
        have HHS := Lib.hid HK.out.size
        clear hp hba hs hP hQ hc HS
        go_wp2_with (at_builtin; refine wpList_append_own _ rfl _ _ 76 rfl w.heap.size 9 i0 (.string ⟨#[]⟩) 1 16 Tryd.underlying76 hi hz0 hz1 hz2 rfl (by decide) _ _ _ rfl (own_kept HO.out ((Kept.refl Nil wr).alloc _) (fun _ _ hf => hf)) ⟨wr.heap.size, 0, none⟩ 1 1 [.string (nmS k)] rfl rfl (one_new _ _ _ _ rfl) (by intro u hu; simp at hu; subst hu; rfl) (by have := HLN.out; unfold maxLen; omega) (by have := HLN.out; omega) (by have := HHS.out; simp; omega) ?_; intro v' w2 hown' hgr hnil)
        have hk2 : Kept Nil w w2 := (HK.out.alloc _).grown hgr (fun i hi hl => by have := (HO.out.lt i hi).1; omega)
        have HO2 := Lib.hid (show w2.ownsRow w.heap.size 9 1 v' (toldL f (k + 1)).length (nmV (toldL f (k + 1))) by rw [HS2.out, nmV_app, List.length_append]; exact hown')
        have HK2 := Lib.hid hk2
        clear hown' hgr hnil hk2
        go_wp2
        go_roundw
        case rel => exact ⟨k + 1, by omega, by go_num, HO2, HK2⟩
        case measure => simp [intOf]; omega
      · have hQz : ((Q : Int) != 0) = false := by simp; omega
        have HS2 := Lib.hid (show toldL f (k + 1) = toldL f k by rw [HS.out, if_neg hc, List.append_nil])
        clear hp hba hs hP hQ hc HS
        go_wp2
        go_roundw
        case rel => exact ⟨k + 1, by omega, by go_num, by rw [HS2.out]; exact HO, HK⟩
        case measure => simp [intOf]; omega
    · obtain rfl : k = 8 := by omega
      have hl8 := toldL_len f 8
      obtain ⟨l, hl⟩ : ∃ l, toldL f 8 = l := ⟨_, rfl⟩
      have hti := HTI.out
      rw [hl] at HO hl8 hti
      clear hl HTI
      rcases str_own HO.out with ⟨rfl, h0, hx⟩ | ⟨g, c, rfl, hnc, hg, hxl, hce⟩
      · have hl0 : l = [] := List.eq_nil_of_length_eq_zero h0
        subst hl0
        have HR := Lib.hid (hti.1 rfl)
        clear hti
        go_wp2
        go_ret
        exact ⟨by rw [HR.out]; rfl, HK.out⟩
      · by_cases h0 : l = []
        · subst h0
          have HR := Lib.hid (hti.1 rfl)
          clear hti hce
          go_wp2
          go_ret
          exact ⟨by rw [HR.out]; rfl, HK.out⟩
        · have HR := Lib.hid (hti.2.1 h0)
          have hn0 : ((l.length : Int) == 0) = false := by have : l.length ≠ 0 := fun e => h0 (List.eq_nil_of_length_eq_zero e); simp; omega
          have hmap : (l.map nmS).map (·.data.toList) = l.map flagAt := by simp [nmS]
          have hj := Tryd.strings_Join g 0 c (l.map nmS) ⟨#[44]⟩ wr (by
            intro j x hx
            refine hce j (.string x) ?_
            unfold nmV
            rw [List.getElem?_map] at hx ⊢
            cases hlj : l[j]? with
            | none => rw [hlj] at hx; cases hx
            | some k => rw [hlj] at hx; simp at hx; simp [hx]) hg (by simp; omega) (by simp; omega) (by rw [hmap]; show (Lib.join (l.map flagAt) [44]).length ≤ _; rw [HR.out]; have := hti.2.2; omega)
          rw [hmap, List.length_map, show Lib.join (l.map flagAt) (⟨#[44]⟩ : ByteArray).data.toList = flagT f from HR.out] at hj
          have HJ := Lib.hid hj
          clear hti hce hmap hj h0
          go_wp2_with (fail)
          refine (HJ.out).mono ?_
          rintro e w2 ⟨rfl, hb⟩
          have HK2 := Lib.hid (HK.out.then (Kept.of_below hb))
          clear hb
          go_wp2
          go_ret
          exact ⟨rfl, HK2.out⟩
end Go.Proofs.YthjbabkmjmfmjaaDoor
