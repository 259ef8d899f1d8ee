/- tolllaw07.TransFlags: the walk. -/
import Derived.Test.YthjbabkmjmfmjaaDoorMg16
import Derived.Test.YthjbabkmjmfmjaaDoorMg17
import Derived.Test.YthjbabkmjmfmjaaDoorMg20
import Derived.Test.YthjbabkmjmfmjaaDoorCut7
namespace Go.Proofs.YthjbabkmjmfmjaaDoor
open Go.RowKit Go.Sort
set_option linter.unusedVariables false

theorem infS1 : (Tryd.prog.info? 9).map (·.size) = some 1 := by kernel_rfl
def flK (w : World) (g q j : Nat) (M : List ByteArray) (u : World) : Prop := Kept Nil w u ∧ ∃ cs : List ByteArray, Blo u g 9 (cs.map Value.string).toArray ∧ cs.length = M.length ∧ ∀ k, k ≠ q → k ≠ j → cs[k]? = M[k]?
set_option maxRecDepth 100000 in
set_option maxHeartbeats 16000000 in
theorem tflags_yes (fl : Int) (s : ByteArray) (w : World) (hf : (Lit.int .u8 fl).wf = true) (hs : s.size ≤ maxLen) (hG : Gl w) :
    Calls Tryd.prog 7 #[.int .u8 fl, .string s] w fun e w' => e = .returned (.bool true) ∧ Below w.heap.size w w' := by
  have hb8 := wfu8 fl hf
  obtain ⟨f, rfl⟩ := Int.eq_ofNat_of_zero_le hb8.1
  have hf8 : f < 256 := by omega
  obtain ⟨ms, hms, hms', hs1, hs2, hs3⟩ := min60 s.size
  have hsl := sliceH s ms hs1
  have HCZ := Lib.hid (And.intro (cut_size s ms hs1) hs2)
  generalize s.extract 0 ms = S at *
  have FB := flags_back ⟨f, hf8⟩
  have FS := flags_split ⟨f, hf8⟩
  have CT := Lib.hid (fun w hn => ttext_yes f hf8 w hn)
  dsimp only at FB FS
  generalize flagT f = T at *
  obtain ⟨tx, htx⟩ : ∃ x : ByteArray, (⟨T.toArray⟩ : ByteArray) = x := ⟨_, rfl⟩
  have hxd : tx.data.toList = T := by rw [← htx]
  have hxs : tx.size = T.length := by rw [← hxd]; rfl
  rw [htx] at CT
  have HXD := Lib.hid (And.intro hxd hxs)
  have HFB := Lib.hid FB
  have HFS := Lib.hid FS
  have HGG := Lib.hid hG
  clear FB FS hG hb8 hf hs hs1 hs2 hs3 htx hxd hxs
  go_enter Tryd.func7, Tryd.ntmps7
  go_wp2_with (fail)
  refine (CT.out w HGG.out.nm).mono ?_
  rintro e w1 ⟨rfl, hk⟩
  have HK := Lib.hid hk
  clear hk hsl hms hms'
  go_wp2_with (fail)
  have hp := tparse_yes tx (by rw [HXD.out.2]; have := HFS.out.2.2.1; omega) w1 (HGG.out.kept HK.out).nm
  rw [HXD.out.1, HFB.out.1] at hp
  refine hp.mono ?_
  clear hp
  rintro e w2 ⟨rfl, hk⟩
  dsimp only
  have HK := Lib.hid (HK.out.then hk)
  clear hk
  go_wp2_with (fail)
  obtain ⟨mx, hmx⟩ := (HGG.out.kept HK.out).mx
  refine (Tryd.strings_Split tx ⟨#[44]⟩ mx w2 (by rw [HXD.out.2]; have := HFS.out.2.2.1; omega) hmx (by decide)).mono ?_
  rintro e w3 ⟨rfl, rfl⟩
  have hLl := Lib.splitB_all ⟨#[44]⟩ (by decide) 0 _ tx rfl
  have hLd := Lib.splitB_data ⟨#[44]⟩ 0 (Lib.countB tx ⟨#[44]⟩) tx
  have hLd2 : (Lib.splitB ⟨#[44]⟩ 0 (Lib.countB tx ⟨#[44]⟩) tx).map (·.data.toList) = splitC 44 T := by
    rw [hLd]
    have := HFS.out.1
    rw [← HXD.out.1] at this ⊢
    exact this
  have hB := Blo.new w2 9 ((Lib.splitB ⟨#[44]⟩ 0 (Lib.countB tx ⟨#[44]⟩) tx).map Value.string).toArray
  have hk := (Kept.refl Nil w2).alloc (.cells ((Lib.splitB ⟨#[44]⟩ 0 (Lib.countB tx ⟨#[44]⟩) tx).map Value.string).toArray 9)
  clear hLd
  generalize Lib.splitB ⟨#[44]⟩ 0 (Lib.countB tx ⟨#[44]⟩) tx = P at *
  generalize Lib.countB tx ⟨#[44]⟩ + 1 = N at *
  generalize hw3 : w2.alloc (.cells (P.map Value.string).toArray 9) = w3 at *
  obtain ⟨g, hg⟩ : ∃ g, w2.heap.size = g := ⟨_, rfl⟩
  have HWG := Lib.hid (show w.heap.size ≤ g by have := HK.out.size; omega)
  rw [hg] at hB ⊢
  have HB := Lib.hid hB
  have HK := Lib.hid (HK.out.then hk)
  have HL := Lib.hid (And.intro hLl hLd2)
  have hN1 : 1 ≤ N := by
    rcases Nat.eq_zero_or_pos N with h0 | h0
    · have h1 := congrArg List.length hLd2
      rw [List.length_map, hLl, h0] at h1
      exact absurd (List.eq_nil_of_length_eq_zero h1.symm) (split_ne 44 T)
    · exact h0
  have hN8 : N ≤ 8 := by
    have h1 := congrArg List.length hLd2
    rw [List.length_map, hLl] at h1
    rw [h1]; exact HFS.out.2.2.2.2.1
  clear hB hk hLl hLd2 hw3 hg hmx
  go_wp2_with (fail)
  go_loopw [9, 10] (fun i j wr => ∃ q : Nat, 2 * q ≤ N ∧ i = .int .i64 (q : Int) ∧ j = .int .i64 ((N : Int) - 1 - (q : Int)) ∧ Hid (Blo wr g 9 ((tn P q).map Value.string).toArray) ∧ Hid (Kept Nil w wr)) (fun i _ _ => N - (intOf i).toNat)
  case atStart => exact ⟨0, by omega, rfl, by simp, by rw [tn_zero]; exact HB, HK⟩
  case round =>
    obtain ⟨q, hq, rfl, rfl, HBr, HKr⟩ := hrel
    clear HB HK
    by_cases hlt : 2 * q + 1 < N
    · obtain ⟨j, hj⟩ : ∃ j, N - 1 - q = j := ⟨_, rfl⟩
      have hji : (N : Int) - 1 - (q : Int) = (j : Int) := by omega
      have hqj : q < j := by omega
      have hjN : j < N := by omega
      have hPl := HL.out.1
      obtain ⟨X, hX⟩ : ∃ X, (tn P q)[q]? = some X := ⟨_, List.getElem?_eq_getElem (by rw [tn_len, hPl]; omega)⟩
      obtain ⟨Y, hY⟩ : ∃ Y, (tn P q)[j]? = some Y := ⟨_, List.getElem?_eq_getElem (by rw [tn_len, hPl]; omega)⟩
      have HXY := Lib.hid (And.intro hX (And.intro hY (And.intro hj hPl)))
      rw [hji]
      clear hX hY hPl
      go_wp2_with (fail)
      refine wp_nameC2 fun A0 hA0 => ?_
      have HSZ : A0.tmps.size = 131 := by rw [hA0]; rfl
      have a8 : A0.tmps.getD 8 undef = .slice (some ⟨g, 0, none⟩) N N := by rw [hA0]; rfl
      have a9 : A0.tmps.getD 9 undef = .int .i64 (q : Int) := by rw [hA0]; rfl
      have a10 : A0.tmps.getD 10 undef = .int .i64 (j : Int) := by rw [hA0]; rfl
      have HA0 := Lib.hid hA0
      clear hA0
      have hqN : q < N := by omega
      have am : A0.eval (.tmp 8) = .slice (some ⟨g, 0, none⟩) N N := a8
      refine wp_region_posts 131 (cI [51, 52, 53, 54, 55, 56, 57, 58, 59, 60, 61, 62, 63, 64] 8 (.slice (some ⟨g, 0, none⟩) N N) (.slice (some ⟨g, 0, none⟩) N N) (flK w g q j (tn P q)) A0) (cR [(fun v => v = .slice (some ⟨g, 0, none⟩) N N), (fun v => v = .int .i64 (q : Int)), (fun v => v = .slice (some ⟨g, 0, none⟩) N N), (fun v => v = .int .i64 (j : Int)), (fun v => v = .slice (some ⟨g, 0, none⟩) N N), (fun v => v = .int .i64 (j : Int)), (fun v => v = pAt g j), (fun v => v = .string Y), (fun v => v = .slice (some ⟨g, 0, none⟩) N N), (fun v => v = .int .i64 (q : Int)), (fun v => v = pAt g q), (fun v => v = .string X), (fun v => v = pAt g q), (fun v => v = undef), (fun v => v = pAt g j), (fun v => v = undef)] [⟨13, g, q, .string X, .string Y⟩, ⟨15, g, j, .string Y, .string X⟩]) (cU [⟨13, g, q, .string X, .string Y⟩, ⟨15, g, j, .string Y, .string X⟩]) (by kernel_rfl) (by kernel_rfl) (fun a u h => h.size.trans HSZ) (fun u hu => ⟨⟨rfl, rfl, fun _ _ => rfl, .inl am, HKr.out.then hu, _, HBr.out.kept hu (fun hf => hf), rfl, fun _ _ _ => rfl⟩, fun i e he _ => by
        simp only [List.mem_cons, List.not_mem_nil, or_false] at he
        rcases he with rfl | rfl
        · exact str_cell (HBr.out.kept hu (fun hf => hf)) X HXY.out.1
        · exact str_cell (HBr.out.kept hu (fun hf => hf)) Y HXY.out.2.1⟩) ?_ ?_
      · refine ⟨?_, ?_, ?_, ?_, ?_, ?_, ?_, ?_, ?_, ?_, ?_, ?_, ?_, ?_, ?_, ?_, trivial⟩
        · intro a u hI hp hU
          have e0 : a.eval (.tmp 8) = .slice (some ⟨g, 0, none⟩) N N := (hI.fr 8 (by decide)).trans a8
          exact c_pure hI (.slice (some ⟨g, 0, none⟩) N N) (exec_mv2 _ rfl e0) 51 rfl (by rfl) (by rfl) rfl (by rfl)
        · intro a u hI hp hU
          have e0 : a.eval (.tmp 9) = .int .i64 (q : Int) := (hI.fr 9 (by decide)).trans a9
          exact c_pure hI (.int .i64 (q : Int)) (exec_mv2 _ rfl e0) 52 rfl (by rfl) (by rfl) rfl (by rfl)
        · intro a u hI hp hU
          have e0 : a.eval (.tmp 8) = .slice (some ⟨g, 0, none⟩) N N := (hI.fr 8 (by decide)).trans a8
          exact c_pure hI (.slice (some ⟨g, 0, none⟩) N N) (exec_mv2 _ rfl e0) 53 rfl (by rfl) (by rfl) rfl (by rfl)
        · intro a u hI hp hU
          have e0 : a.eval (.tmp 10) = .int .i64 (j : Int) := (hI.fr 10 (by decide)).trans a10
          exact c_pure hI (.int .i64 (j : Int)) (exec_mv2 _ rfl e0) 54 rfl (by rfl) (by rfl) rfl (by rfl)
        · intro a u hI hp hU
          have e0 : a.eval (.tmp 8) = .slice (some ⟨g, 0, none⟩) N N := (hI.fr 8 (by decide)).trans a8
          exact c_pure hI (.slice (some ⟨g, 0, none⟩) N N) (exec_mv2 _ rfl e0) 55 rfl (by rfl) (by rfl) rfl (by rfl)
        · intro a u hI hp hU
          have e0 : a.eval (.tmp 10) = .int .i64 (j : Int) := (hI.fr 10 (by decide)).trans a10
          exact c_pure hI (.int .i64 (j : Int)) (exec_mv2 _ rfl e0) 56 rfl (by rfl) (by rfl) rfl (by rfl)
        · intro a u hI hp hU
          exact c_pure hI (pAt g j) (exec_ia _ _ _ rfl (got hp ⟨4, .data⟩ (by simp) rfl 55 rfl).1 (got hp ⟨5, .data⟩ (by simp) rfl 56 rfl).1 (ia_s g N _ hjN u)) 57 rfl (by rfl) (by rfl) rfl (by rfl)
        · intro a u hI hp hU
          exact c_pure hI (.string Y) (exec_lds _ _ rfl (got hp ⟨6, .data⟩ (by simp) rfl 57 rfl).1 (c_old hU _ rfl ⟨⟨7, .phase⟩, by simp, rfl, rfl⟩ ⟨15, g, j, .string Y, .string X⟩ (by simp) rfl) Tryd.underlying9) 58 rfl (by rfl) (by rfl) rfl (by rfl)
        · intro a u hI hp hU
          have e0 : a.eval (.tmp 8) = .slice (some ⟨g, 0, none⟩) N N := (hI.fr 8 (by decide)).trans a8
          exact c_pure hI (.slice (some ⟨g, 0, none⟩) N N) (exec_mv2 _ rfl e0) 59 rfl (by rfl) (by rfl) rfl (by rfl)
        · intro a u hI hp hU
          have e0 : a.eval (.tmp 9) = .int .i64 (q : Int) := (hI.fr 9 (by decide)).trans a9
          exact c_pure hI (.int .i64 (q : Int)) (exec_mv2 _ rfl e0) 60 rfl (by rfl) (by rfl) rfl (by rfl)
        · intro a u hI hp hU
          exact c_pure hI (pAt g q) (exec_ia _ _ _ rfl (got hp ⟨8, .data⟩ (by simp) rfl 59 rfl).1 (got hp ⟨9, .data⟩ (by simp) rfl 60 rfl).1 (ia_s g N _ hqN u)) 61 rfl (by rfl) (by rfl) rfl (by rfl)
        · intro a u hI hp hU
          exact c_pure hI (.string X) (exec_lds _ _ rfl (got hp ⟨10, .data⟩ (by simp) rfl 61 rfl).1 (c_old hU _ rfl ⟨⟨11, .phase⟩, by simp, rfl, rfl⟩ ⟨13, g, q, .string X, .string Y⟩ (by simp) rfl) Tryd.underlying9) 62 rfl (by rfl) (by rfl) rfl (by rfl)
        · intro a u hI hp hU
          exact c_pure hI (pAt g q) (exec_ia _ _ _ rfl (got hp ⟨0, .data⟩ (by simp) rfl 51 rfl).1 (got hp ⟨1, .data⟩ (by simp) rfl 52 rfl).1 (ia_s g N _ hqN u)) 63 rfl (by rfl) (by rfl) rfl (by rfl)
        · intro a u hI hp hU
          obtain ⟨hk1, cs, hb, hl, hrest⟩ := hI.inv
          have hfl : q < cs.length := by rw [hl, tn_len, HL.out.1]; omega
          refine c_st hI _ _ _ rfl rfl (got hp ⟨12, .data⟩ (by simp) rfl 63 rfl).1 (got hp ⟨7, .data⟩ (by simp) rfl 58 rfl).1 rfl rfl infS1 hb (by rw [List.length_map]; exact hfl) ?_ rfl fun u' hbl hk hz => ?_
          · intro e he
            simp only [List.mem_cons, List.not_mem_nil, or_false] at he
            rcases he with rfl | rfl
            · exact .inl ⟨rfl, rfl, rfl, rfl⟩
            · exact .inr ⟨by show (15 : Nat) ≠ 13; decide, .inr (by show q ≠ j; omega)⟩
          · rw [str_put cs q Y hfl] at hbl
            refine ⟨hk1.fresh hk (fun i hi => by cases hi; exact HWG.out), cs.set q Y, hbl, by rw [List.length_set]; exact hl, fun k h1 h2 => ?_⟩
            rw [List.getElem?_set_ne (by omega)]
            exact hrest k h1 h2
        · intro a u hI hp hU
          exact c_pure hI (pAt g j) (exec_ia _ _ _ rfl (got hp ⟨2, .data⟩ (by simp) rfl 53 rfl).1 (got hp ⟨3, .data⟩ (by simp) rfl 54 rfl).1 (ia_s g N _ hjN u)) 64 rfl (by rfl) (by rfl) rfl (by rfl)
        · intro a u hI hp hU
          obtain ⟨hk1, cs, hb, hl, hrest⟩ := hI.inv
          have hfl : j < cs.length := by rw [hl, tn_len, HL.out.1]; omega
          refine c_st hI _ _ _ rfl rfl (got hp ⟨14, .data⟩ (by simp) rfl 64 rfl).1 (got hp ⟨11, .data⟩ (by simp) rfl 62 rfl).1 rfl rfl infS1 hb (by rw [List.length_map]; exact hfl) ?_ rfl fun u' hbl hk hz => ?_
          · intro e he
            simp only [List.mem_cons, List.not_mem_nil, or_false] at he
            rcases he with rfl | rfl
            · exact .inr ⟨by show (13 : Nat) ≠ 15; decide, .inr (by show j ≠ q; omega)⟩
            · exact .inl ⟨rfl, rfl, rfl, rfl⟩
          · rw [str_put cs j X hfl] at hbl
            refine ⟨hk1.fresh hk (fun i hi => by cases hi; exact HWG.out), cs.set j X, hbl, by rw [List.length_set]; exact hl, fun k h1 h2 => ?_⟩
            rw [List.getElem?_set_ne (by omega)]
            exact hrest k h1 h2
      · intro a u hI hR
        obtain ⟨hk1, cs, hb, hl, hrest⟩ := hI.inv
        have z13 := cell_str hb Y ((hR 13 _ rfl).2 ⟨13, g, q, .string X, .string Y⟩ (by simp) rfl)
        have z15 := cell_str hb X ((hR 15 _ rfl).2 ⟨15, g, j, .string Y, .string X⟩ (by simp) rfl)
        have e51 : a.tmps.getD 51 undef = .slice (some ⟨g, 0, none⟩) N N := (hR 0 _ rfl).1
        have e52 : a.tmps.getD 52 undef = .int .i64 (q : Int) := (hR 1 _ rfl).1
        have e53 : a.tmps.getD 53 undef = .slice (some ⟨g, 0, none⟩) N N := (hR 2 _ rfl).1
        have e54 : a.tmps.getD 54 undef = .int .i64 (j : Int) := (hR 3 _ rfl).1
        have e55 : a.tmps.getD 55 undef = .slice (some ⟨g, 0, none⟩) N N := (hR 4 _ rfl).1
        have e56 : a.tmps.getD 56 undef = .int .i64 (j : Int) := (hR 5 _ rfl).1
        have e57 : a.tmps.getD 57 undef = pAt g j := (hR 6 _ rfl).1
        have e58 : a.tmps.getD 58 undef = .string Y := (hR 7 _ rfl).1
        have e59 : a.tmps.getD 59 undef = .slice (some ⟨g, 0, none⟩) N N := (hR 8 _ rfl).1
        have e60 : a.tmps.getD 60 undef = .int .i64 (q : Int) := (hR 9 _ rfl).1
        have e61 : a.tmps.getD 61 undef = pAt g q := (hR 10 _ rfl).1
        have e62 : a.tmps.getD 62 undef = .string X := (hR 11 _ rfl).1
        have e63 : a.tmps.getD 63 undef = pAt g q := (hR 12 _ rfl).1
        have e64 : a.tmps.getD 64 undef = pAt g j := (hR 14 _ rfl).1
        have ha := act_eq a A0 [(51, .slice (some ⟨g, 0, none⟩) N N), (52, .int .i64 (q : Int)), (53, .slice (some ⟨g, 0, none⟩) N N), (54, .int .i64 (j : Int)), (55, .slice (some ⟨g, 0, none⟩) N N), (56, .int .i64 (j : Int)), (57, pAt g j), (58, .string Y), (59, .slice (some ⟨g, 0, none⟩) N N), (60, .int .i64 (q : Int)), (61, pAt g q), (62, .string X), (63, pAt g q), (64, pAt g j)] hI.size hI.defs (show ([51, 52, 53, 54, 55, 56, 57, 58, 59, 60, 61, 62, 63, 64] : List Nat).Nodup by decide) (fun p hp => by
          rw [HSZ]
          have h1 : p.1 ∈ [51, 52, 53, 54, 55, 56, 57, 58, 59, 60, 61, 62, 63, 64] := List.mem_map_of_mem (f := Prod.fst) hp
          simp at h1
          omega) (fun p hp => by
          simp only [List.mem_cons, List.not_mem_nil, or_false] at hp
          rcases hp with rfl | rfl | rfl | rfl | rfl | rfl | rfl | rfl | rfl | rfl | rfl | rfl | rfl | rfl
          · exact e51
          · exact e52
          · exact e53
          · exact e54
          · exact e55
          · exact e56
          · exact e57
          · exact e58
          · exact e59
          · exact e60
          · exact e61
          · exact e62
          · exact e63
          · exact e64
          ) (fun d hd => hI.fr d hd)
        have hcs : cs = tn P (q + 1) := tn_step P cs q j (by rw [HXY.out.2.2.2]; exact HXY.out.2.2.1.symm) hqj (by rw [hl, tn_len]) (by rw [z13, HXY.out.2.1]) (by rw [z15, HXY.out.1]) hrest
        subst hcs
        have HB2 := Lib.hid hb
        have HK2 := Lib.hid hk1
        clear hI hR hb hk1 hl hrest z13 z15 e51 e52 e53 e54 e55 e56 e57 e58 e59 e60 e61 e62 e63 e64 am a8 a9 a10 HSZ
        subst ha
        have hA := HA0.out
        clear HA0
        subst hA
        unfold pAt
        simp only [List.foldl_cons, List.foldl_nil, Act.put, List.setIfInBounds_toArray, List.set_cons_succ, List.set_cons_zero]
        go_wp2_with (fail)
        go_roundw
        case rel => exact ⟨q + 1, by omega, by go_num, by have := HXY.out.2.2.1; first | (go_num; done) | (congr 1; omega), HB2, HK2⟩
        case measure => simp [intOf]; omega
    · have hti : ¬ ((q : Int) < (N : Int) - 1 - (q : Int)) := by omega
      have hrv : tn P q = P.reverse := tn_done P q (by rw [HL.out.1]; omega)
      rw [hrv] at HBr
      go_wp2_with (fail)
      have hrl : P.reverse.length = N := by rw [List.length_reverse, HL.out.1]
      have hmap : P.reverse.map (·.data.toList) = (splitC 44 T).reverse := by rw [List.map_reverse, HL.out.2]
      have hjn : Lib.join (P.reverse.map (·.data.toList)) (⟨#[44]⟩ : ByteArray).data.toList = joinC 44 (splitC 44 T).reverse := by rw [hmap]; exact HFS.out.2.1
      have hp := Tryd.strings_Join g 0 N P.reverse ⟨#[44]⟩ wr (fun j x hx => by rw [Nat.zero_add]; exact str_cell HBr.out x hx) HBr.out.lt (by rw [hrl]; omega) (by rw [hrl]; exact Nat.le_refl _) (by rw [hjn]; have := HFS.out.2.2.2.1; omega)
      rw [hrl, hjn] at hp
      refine hp.mono ?_
      clear hp hjn
      rintro e w4 ⟨rfl, hbel⟩
      have hk := Kept.of_below hbel
      have HK := Lib.hid (HKr.out.then hk)
      have HB := Lib.hid (HBr.out.kept hk (fun hf => hf))
      clear hbel hk HBr HKr hti
      obtain ⟨jx, hjx⟩ : ∃ x : ByteArray, (⟨(joinC 44 (splitC 44 T).reverse).toArray⟩ : ByteArray) = x := ⟨_, rfl⟩
      have hjd : jx.data.toList = joinC 44 (splitC 44 T).reverse := by rw [← hjx]
      have hjs : jx.size ≤ 40 := by rw [show jx.size = jx.data.toList.length from rfl, hjd]; exact HFS.out.2.2.2.1
      rw [hjx]
      clear hjx
      go_wp2_with (fail)
      have hp := tparse_yes jx (by omega) w4 (HGG.out.kept HK.out).nm
      rw [hjd, HFB.out.2.1] at hp
      refine hp.mono ?_
      clear hp hjd hjs
      rintro e w5 ⟨rfl, hk⟩
      dsimp only
      have HK := Lib.hid (HK.out.then hk)
      have HB := Lib.hid (HB.out.kept hk (fun hf => hf))
      clear hk
      obtain ⟨x0, hx0⟩ : ∃ x, P.reverse[0]? = some x := ⟨_, List.getElem?_eq_getElem (by omega)⟩
      have c0 := str_cell HB.out x0 hx0
      have hxd0 : x0.data.toList = (splitC 44 T).reverse.headD [] := by
        have h1 : (P.reverse.map (·.data.toList))[0]? = some x0.data.toList := by rw [List.getElem?_map, hx0]; rfl
        rw [hmap] at h1
        rw [List.headD_eq_head?_getD, List.head?_eq_getElem?, h1]
        rfl
      have hs0 : x0.size ≤ 40 := by rw [show x0.size = x0.data.toList.length from rfl, hxd0]; exact HFS.out.2.2.2.2.2
      have hst : tx.size ≤ 40 := by rw [HXD.out.2]; exact HFS.out.2.2.1
      have hz1 : (tx ++ (⟨#[44]⟩ : ByteArray)).size = tx.size + 1 := by rw [ByteArray.size_append]; rfl
      have hz2 : (tx ++ (⟨#[44, 83, 89, 78]⟩ : ByteArray)).size = tx.size + 4 := by rw [ByteArray.size_append]; rfl
      have hz3 : (tx ++ (⟨#[44]⟩ : ByteArray) ++ x0).size = tx.size + 1 + x0.size := by rw [ByteArray.size_append, hz1]
      have hg1 : ¬ 9223372036854775807 < tx.size + (⟨#[44]⟩ : ByteArray).size := by rw [show (⟨#[44]⟩ : ByteArray).size = 1 from rfl]; omega
      have hg2 : ¬ 9223372036854775807 < (tx ++ (⟨#[44]⟩ : ByteArray)).size + x0.size := by omega
      have hg3 : ¬ 9223372036854775807 < tx.size + (⟨#[44, 83, 89, 78]⟩ : ByteArray).size := by rw [show (⟨#[44, 83, 89, 78]⟩ : ByteArray).size = 4 from rfl]; omega
      have hd1 : (tx ++ (⟨#[44]⟩ : ByteArray) ++ x0).data.toList = T ++ 44 :: (splitC 44 T).reverse.headD [] := by
        rw [ByteArray.data_append, ByteArray.data_append, Array.toList_append, Array.toList_append, HXD.out.1, hxd0, List.append_assoc]
        rfl
      have hd2 : (tx ++ (⟨#[44, 83, 89, 78]⟩ : ByteArray)).data.toList = T ++ [44, 83, 89, 78] := by
        rw [ByteArray.data_append, Array.toList_append, HXD.out.1]
      clear hmap hrl hx0 hxd0
      go_wp2_with (fail)
      by_cases hf0 : f = 0
      · have hfb : ((f : Int) == 0) = true := by simp [hf0]
        have hp := tparse_yes (tx ++ (⟨#[44]⟩ : ByteArray) ++ x0) (by omega) w5 (HGG.out.kept HK.out).nm
        rw [hd1, HFB.out.2.2.1, if_pos hf0] at hp
        refine hp.mono ?_
        clear hp hd1 c0
        rintro e w6 ⟨rfl, hk⟩
        dsimp only
        have HK := Lib.hid (HK.out.then hk)
        clear hk
        go_wp2_with (fail)
        have hp := tparse_yes (tx ++ (⟨#[44, 83, 89, 78]⟩ : ByteArray)) (by omega) w6 (HGG.out.kept HK.out).nm
        rw [hd2, HFB.out.2.2.2] at hp
        refine hp.mono ?_
        clear hp hd2 HB
        rintro e w7 ⟨rfl, hk⟩
        dsimp only
        have HK := Lib.hid (HK.out.then hk)
        clear hk
        have CS := Lib.hid (fun w hn => tparse_yes S (by have := HCZ.out; omega) w hn)
        have hfl := flagP_len S.data.toList
        have hSs : S.size = S.data.toList.length := rfl
        generalize flagP S.data.toList = RP at *
        obtain ⟨N1, N2⟩ := RP
        dsimp only at hfl CS
        clear hs0 hst hz1 hz2 hz3 hg1 hg2 hg3 HXD HFS HFB CT
        go_wp2_with (fail)
        refine (CS.out w7 (HGG.out.kept HK.out).nm).mono ?_
        rintro e w8 ⟨rfl, hk⟩
        dsimp only
        have HK := Lib.hid (HK.out.then hk)
        clear hk
        by_cases h2 : N2 = 0
        · obtain ⟨hN, hTl⟩ := hfl.1 h2
          subst h2
          clear hfl CS
          go_wp2_with (fail)
          have hp := ttext_yes N1 hN w8 (HGG.out.kept HK.out).nm
          refine hp.mono ?_
          clear hp
          rintro e w9 ⟨rfl, hk⟩
          have hlen : (⟨(flagT N1).toArray⟩ : ByteArray).size = S.size := by rw [hSs, ← hTl]; rfl
          generalize (⟨(flagT N1).toArray⟩ : ByteArray) = Z at *
          have HK := Lib.hid (HK.out.then hk)
          clear hk hTl hSs
          go_wp2_with (fail)
          refine (twakes_yes _ (HGG.out.kept HK.out).nm).mono ?_
          rintro e w10 ⟨rfl, hk⟩
          have HK := Lib.hid (HK.out.then hk)
          go_wp2_with (fail)
          go_ret
          exact ⟨rfl, HK.out.below (Nat.le_refl _) (fun _ hf => hf.elim)⟩
        · have hN := hfl.2 h2
          subst hN
          have hb2 : (N2 == 0) = false := by simpa using h2
          have hb3 : (N2 != 0) = true := by simpa using h2
          clear hfl CS hSs
          go_wp2_with (fail)
          refine (twakes_yes _ (HGG.out.kept HK.out).nm).mono ?_
          rintro e w10 ⟨rfl, hk⟩
          have HK := Lib.hid (HK.out.then hk)
          go_wp2_with (fail)
          go_ret
          exact ⟨rfl, HK.out.below (Nat.le_refl _) (fun _ hf => hf.elim)⟩
      · have hfb : ((f : Int) == 0) = false := by simp; omega
        have hp := tparse_yes (tx ++ (⟨#[44]⟩ : ByteArray) ++ x0) (by omega) w5 (HGG.out.kept HK.out).nm
        rw [hd1, HFB.out.2.2.1, if_neg hf0] at hp
        refine hp.mono ?_
        clear hp hd1 c0
        rintro e w6 ⟨rfl, hk⟩
        dsimp only
        have HK := Lib.hid (HK.out.then hk)
        clear hk
        go_wp2_with (fail)
        have hp := tparse_yes (tx ++ (⟨#[44, 83, 89, 78]⟩ : ByteArray)) (by omega) w6 (HGG.out.kept HK.out).nm
        rw [hd2, HFB.out.2.2.2] at hp
        refine hp.mono ?_
        clear hp hd2 HB
        rintro e w7 ⟨rfl, hk⟩
        dsimp only
        have HK := Lib.hid (HK.out.then hk)
        clear hk
        have CS := Lib.hid (fun w hn => tparse_yes S (by have := HCZ.out; omega) w hn)
        have hfl := flagP_len S.data.toList
        have hSs : S.size = S.data.toList.length := rfl
        generalize flagP S.data.toList = RP at *
        obtain ⟨N1, N2⟩ := RP
        dsimp only at hfl CS
        clear hs0 hst hz1 hz2 hz3 hg1 hg2 hg3 HXD HFS HFB CT
        go_wp2_with (fail)
        refine (CS.out w7 (HGG.out.kept HK.out).nm).mono ?_
        rintro e w8 ⟨rfl, hk⟩
        dsimp only
        have HK := Lib.hid (HK.out.then hk)
        clear hk
        by_cases h2 : N2 = 0
        · obtain ⟨hN, hTl⟩ := hfl.1 h2
          subst h2
          clear hfl CS
          go_wp2_with (fail)
          have hp := ttext_yes N1 hN w8 (HGG.out.kept HK.out).nm
          refine hp.mono ?_
          clear hp
          rintro e w9 ⟨rfl, hk⟩
          have hlen : (⟨(flagT N1).toArray⟩ : ByteArray).size = S.size := by rw [hSs, ← hTl]; rfl
          generalize (⟨(flagT N1).toArray⟩ : ByteArray) = Z at *
          have HK := Lib.hid (HK.out.then hk)
          clear hk hTl hSs
          go_wp2_with (fail)
          refine (twakes_yes _ (HGG.out.kept HK.out).nm).mono ?_
          rintro e w10 ⟨rfl, hk⟩
          have HK := Lib.hid (HK.out.then hk)
          go_wp2_with (fail)
          go_ret
          exact ⟨rfl, HK.out.below (Nat.le_refl _) (fun _ hf => hf.elim)⟩
        · have hN := hfl.2 h2
          subst hN
          have hb2 : (N2 == 0) = false := by simpa using h2
          have hb3 : (N2 != 0) = true := by simpa using h2
          clear hfl CS hSs
          go_wp2_with (fail)
          refine (twakes_yes _ (HGG.out.kept HK.out).nm).mono ?_
          rintro e w10 ⟨rfl, hk⟩
          have HK := Lib.hid (HK.out.then hk)
          go_wp2_with (fail)
          go_ret
          exact ⟨rfl, HK.out.below (Nat.le_refl _) (fun _ hf => hf.elim)⟩
end Go.Proofs.YthjbabkmjmfmjaaDoor
