/- Contracts of mac.parseMask and mac.ParsePattern, of any text. -/
import Derived.Test.YtifoepglhlpoiaaDoorMacQ
import Derived.Test.YtifoepglhlpoiaaDoorMacG
import Derived.Test.YtifoepglhlpoiaaDoorRegO
import Derived.Deep.DeepCutAuto
namespace Go.Proofs.YtifoepglhlpoiaaDoor
open Go.RowKit Go.Sort Go.BigFrame
set_option linter.unusedVariables false

/-- What stands behind the slash: a mask, or an error. -/
def pmk (l : List UInt8) : Except Nat (List UInt8) :=
  if 2 < l.length then (match prs l with
    | some m => .ok m
    | none => .error 5)
  else if l = [] then .error 5 else match numB 10 0 l with
    | none => .error 5
    | some n => if 48 < n then .error 24 else .ok (maskL n)
def puE : Except Nat (List UInt8) → Value
  | .ok m => .tuple #[mv m, .int .i64 0]
  | .error e => .tuple #[mv [0, 0, 0, 0, 0, 0], .int .i64 (e : Int)]
def ppt (l : List UInt8) : Except Nat (List UInt8 × List UInt8) :=
  match prs (if Lib.indexByte l 47 = -1 then l else l.take (Lib.indexByte l 47).toNat) with
  | none => .error 5
  | some a => if Lib.indexByte l 47 = -1 then .ok (andL a [255, 255, 255, 255, 255, 255], [255, 255, 255, 255, 255, 255]) else match pmk (l.drop ((Lib.indexByte l 47).toNat + 1)) with
    | .error e => .error e
    | .ok m => .ok (andL a m, m)
def puX : Except Nat (List UInt8 × List UInt8) → Value
  | .ok (a, m) => .tuple #[pv a m, .int .i64 0]
  | .error e => .tuple #[pv [0, 0, 0, 0, 0, 0] [0, 0, 0, 0, 0, 0], .int .i64 (e : Int)]
theorem prs_len (l bs : List UInt8) (h : prs l = some bs) : bs.length = 6 := by
  unfold prs at h
  split at h
  · exact pfx_len _ _ _ h
  · cases h
theorem pmk_len (l m : List UInt8) (h : pmk l = .ok m) : m.length = 6 := by
  unfold pmk at h
  split at h
  · split at h
    · rename_i m' h'
      cases h
      exact prs_len _ _ h'
    · cases h
  · split at h
    · cases h
    · split at h
      · cases h
      · split at h
        · cases h
        · cases h; rfl
theorem num10_lt (l : List UInt8) (hl : l.length ≤ 2) (n : Nat) (h : numB 10 0 l = some n) : n < 100 := by
  match l, hl with
  | [], _ => simp [numB] at h; omega
  | [c], _ =>
    simp only [numB] at h
    split at h
    · simp at h; omega
    · cases h
  | [c, d], _ =>
    simp only [numB] at h
    split at h
    · split at h
      · simp at h; omega
      · cases h
    · cases h
theorem empty_of (t : ByteArray) (h : t.size = 0) : t = ⟨#[]⟩ := by
  cases t with
  | mk d =>
    have : d.size = 0 := h
    rw [Array.eq_empty_of_size_eq_zero this]

set_option maxHeartbeats 2000000 in
set_option maxRecDepth 100000 in
theorem pu_empty (w : World) : Calls Tryd.prog 50 #[.string ⟨#[]⟩, .int .i64 10, .int .i64 8] w fun e w' => e = .returned (.tuple #[.int .u64 0, .iface 94 (.int .i64 2)]) ∧ w = w' := by
  go_enter Tryd.func50, Tryd.ntmps50
  go_wp2
  go_ret2
  exact ⟨rfl, rfl⟩
set_option maxHeartbeats 2000000 in
set_option maxRecDepth 100000 in
theorem puf_empty (w : World) (hS : Syn w) :
    Calls Tryd.prog 37 #[.string ⟨#[]⟩, .int .i64 10, .int .i64 8] w fun e w' => ∃ N, e = .returned (.tuple #[.int .u64 0, .iface 96 (.pointer (some ⟨N, 0, none⟩))]) ∧ Kept Nil w w' := by
  have HP := Lib.hid pu_empty
  have HS := Lib.hid hS
  have HT := Lib.hid (fun w hS => toErr ⟨#[80, 97, 114, 115, 101, 85, 105, 110, 116]⟩ ⟨#[]⟩ 10 8 (by decide) w hS)
  clear hS
  go_enter Tryd.func37, Tryd.ntmps37
  go_wp2_with fail
  refine (HP.out _).mono ?_
  rintro e w1 ⟨rfl, rfl⟩
  go_wp2_with fail
  refine (HT.out _ HS.out).mono ?_
  rintro e w2 ⟨N, rfl, hk2⟩
  have HK2 := Lib.hid hk2
  clear hk2
  go_wp2
  go_ret2
  exact ⟨N, rfl, HK2.out⟩

set_option maxHeartbeats 8000000 in
set_option maxRecDepth 100000 in
theorem parseMask_any (t : ByteArray) (hm : t.size ≤ 1000) (w : World) (hS : Syn w) :
    Calls Tryd.prog 40 #[.string t] w fun e w' => e = .returned (puE (pmk t.data.toList)) ∧ Kept Nil w w' := by
  have hlen : t.data.toList.length = t.size := by rw [Lib.size_eq]
  generalize hpe : puE (pmk t.data.toList) = pe
  have HPE := Lib.hid hpe
  have HZ := Lib.hid (Blo.new w 24 #[.int .u8 0, .int .u8 0, .int .u8 0, .int .u8 0, .int .u8 0, .int .u8 0])
  have HS := Lib.hid hS
  clear hpe hS
  by_cases h2 : 2 < t.size
  · have hc : ((2 : Int) < (t.size : Int)) := by omega
    have hp := fun w hS => Parse_any t hm w hS
    rcases hr : prs t.data.toList with _ | bs
    · rw [hr] at hp
      have hfin : pe = .tuple #[mv [0, 0, 0, 0, 0, 0], .int .i64 5] := by
        rw [← HPE.out]
        unfold pmk
        rw [if_pos (by omega), hr]
        rfl
      have HFIN := Lib.hid hfin
      have HP := Lib.hid hp
      clear hp hr hfin hlen hm h2
      go_enter Tryd.func40, Tryd.ntmps40
      go_wp2_with fail
      refine (HP.out _ (HS.out.kept ((Kept.refl Nil w).alloc _))).mono ?_
      rintro e w1 ⟨rfl, hk1⟩
      have hb := HZ.out.kept hk1 (fun hf => hf)
      have HK1 := Lib.hid (((Kept.refl Nil w).alloc _).then hk1)
      have y0 := hb.cell 0
      have z0 := hb.frozen 0
      have y1 := hb.cell 1
      have z1 := hb.frozen 1
      have y2 := hb.cell 2
      have z2 := hb.frozen 2
      have y3 := hb.cell 3
      have z3 := hb.frozen 3
      have y4 := hb.cell 4
      have z4 := hb.frozen 4
      have y5 := hb.cell 5
      have z5 := hb.frozen 5
      simp at y0 y1 y2 y3 y4 y5
      clear hb hk1
      rw [puP, mv6]
      go_wp2
      refine bodyPost_ret (v := .tuple #[.agg #[.int .u8 0, .int .u8 0, .int .u8 0, .int .u8 0, .int .u8 0, .int .u8 0], .int .i64 5]) (by simp [results, Tryd.results40, go_sem, y0, y1, y2, y3, y4, y5]) rfl ⟨?_, ?_⟩
      · rw [HFIN.out]
        rfl
      · exact HK1.out.fresh (((((((Kept.refl (fun i => w.heap.size ≤ i) w1).put (Nat.le_refl _) _).put (Nat.le_refl _) _).put (Nat.le_refl _) _).put (Nat.le_refl _) _).put (Nat.le_refl _) _).put (Nat.le_refl _) _) (fun i hi => hi)
    · rw [hr] at hp
      obtain ⟨b0, b1, b2, b3, b4, b5, rfl⟩ := six bs (prs_len _ _ hr)
      have hfin : pe = .tuple #[mv [b0, b1, b2, b3, b4, b5], .int .i64 0] := by
        rw [← HPE.out]
        unfold pmk
        rw [if_pos (by omega), hr]
        rfl
      have HFIN := Lib.hid hfin
      have HP := Lib.hid hp
      clear hp hr hfin hlen hm h2
      go_enter Tryd.func40, Tryd.ntmps40
      go_wp2_with fail
      refine (HP.out _ (HS.out.kept ((Kept.refl Nil w).alloc _))).mono ?_
      rintro e w1 ⟨rfl, hk1⟩
      have hb := HZ.out.kept hk1 (fun hf => hf)
      have HK1 := Lib.hid (((Kept.refl Nil w).alloc _).then hk1)
      have y0 := hb.cell 0
      have z0 := hb.frozen 0
      have y1 := hb.cell 1
      have z1 := hb.frozen 1
      have y2 := hb.cell 2
      have z2 := hb.frozen 2
      have y3 := hb.cell 3
      have z3 := hb.frozen 3
      have y4 := hb.cell 4
      have z4 := hb.frozen 4
      have y5 := hb.cell 5
      have z5 := hb.frozen 5
      simp at y0 y1 y2 y3 y4 y5
      clear hb hk1
      rw [puP, mv6]
      go_wp2
      refine bodyPost_ret (v := .tuple #[.agg #[.int .u8 (b0.toNat : Int), .int .u8 (b1.toNat : Int), .int .u8 (b2.toNat : Int), .int .u8 (b3.toNat : Int), .int .u8 (b4.toNat : Int), .int .u8 (b5.toNat : Int)], .int .i64 0]) (by simp [results, Tryd.results40, go_sem, y0, y1, y2, y3, y4, y5]) rfl ⟨?_, ?_⟩
      · rw [HFIN.out]
        rfl
      · exact HK1.out.fresh (((((((Kept.refl (fun i => w.heap.size ≤ i) w1).put (Nat.le_refl _) _).put (Nat.le_refl _) _).put (Nat.le_refl _) _).put (Nat.le_refl _) _).put (Nat.le_refl _) _).put (Nat.le_refl _) _) (fun i hi => hi)
  · have hc : ¬ ((2 : Int) < (t.size : Int)) := by omega
    by_cases h0 : t.size = 0
    · obtain rfl := empty_of t h0
      have hfin : pe = .tuple #[mv [0, 0, 0, 0, 0, 0], .int .i64 5] := by
        rw [← HPE.out]
        rfl
      have HFIN := Lib.hid hfin
      have HP := Lib.hid puf_empty
      clear hfin hlen hm h2 hc h0
      go_enter Tryd.func40, Tryd.ntmps40
      go_wp2_with fail
      refine (HP.out _ (HS.out.kept ((Kept.refl Nil w).alloc _))).mono ?_
      rintro e w1 ⟨N, rfl, hk1⟩
      have hb := HZ.out.kept hk1 (fun hf => hf)
      have HK1 := Lib.hid (((Kept.refl Nil w).alloc _).then hk1)
      have y0 := hb.cell 0
      have z0 := hb.frozen 0
      have y1 := hb.cell 1
      have z1 := hb.frozen 1
      have y2 := hb.cell 2
      have z2 := hb.frozen 2
      have y3 := hb.cell 3
      have z3 := hb.frozen 3
      have y4 := hb.cell 4
      have z4 := hb.frozen 4
      have y5 := hb.cell 5
      have z5 := hb.frozen 5
      simp at y0 y1 y2 y3 y4 y5
      clear hb hk1
      go_wp2
      refine bodyPost_ret (v := .tuple #[.agg #[.int .u8 0, .int .u8 0, .int .u8 0, .int .u8 0, .int .u8 0, .int .u8 0], .int .i64 5]) (by simp [results, Tryd.results40, go_sem, y0, y1, y2, y3, y4, y5]) rfl ⟨?_, ?_⟩
      · rw [HFIN.out]
        rfl
      · exact HK1.out.fresh (((((((Kept.refl (fun i => w.heap.size ≤ i) w1).put (Nat.le_refl _) _).put (Nat.le_refl _) _).put (Nat.le_refl _) _).put (Nat.le_refl _) _).put (Nat.le_refl _) _).put (Nat.le_refl _) _) (fun i hi => hi)
    · have hnl : t.data.toList ≠ [] := fun h => h0 (by rw [← hlen, h]; rfl)
      rcases hr : numB 10 0 t.data.toList with _ | n
      · have hfin : pe = .tuple #[mv [0, 0, 0, 0, 0, 0], .int .i64 5] := by
          rw [← HPE.out]
          unfold pmk
          rw [if_neg (by omega), if_neg hnl, hr]
          rfl
        have HFIN := Lib.hid hfin
        have HP := Lib.hid (fun w hS => puf10 t h0 (by omega) hr w hS)
        clear hr hfin hlen hm h2 hnl h0
        go_enter Tryd.func40, Tryd.ntmps40
        go_wp2_with fail
        refine (HP.out _ (HS.out.kept ((Kept.refl Nil w).alloc _))).mono ?_
        rintro e w1 ⟨N, rfl, hk1⟩
        have hb := HZ.out.kept hk1 (fun hf => hf)
        have HK1 := Lib.hid (((Kept.refl Nil w).alloc _).then hk1)
        have y0 := hb.cell 0
        have z0 := hb.frozen 0
        have y1 := hb.cell 1
        have z1 := hb.frozen 1
        have y2 := hb.cell 2
        have z2 := hb.frozen 2
        have y3 := hb.cell 3
        have z3 := hb.frozen 3
        have y4 := hb.cell 4
        have z4 := hb.frozen 4
        have y5 := hb.cell 5
        have z5 := hb.frozen 5
        simp at y0 y1 y2 y3 y4 y5
        clear hb hk1
        go_wp2
        refine bodyPost_ret (v := .tuple #[.agg #[.int .u8 0, .int .u8 0, .int .u8 0, .int .u8 0, .int .u8 0, .int .u8 0], .int .i64 5]) (by simp [results, Tryd.results40, go_sem, y0, y1, y2, y3, y4, y5]) rfl ⟨?_, ?_⟩
        · rw [HFIN.out]
          rfl
        · exact HK1.out.fresh (((((((Kept.refl (fun i => w.heap.size ≤ i) w1).put (Nat.le_refl _) _).put (Nat.le_refl _) _).put (Nat.le_refl _) _).put (Nat.le_refl _) _).put (Nat.le_refl _) _).put (Nat.le_refl _) _) (fun i hi => hi)
      · have hn100 := num10_lt _ (by omega) n hr
        have HP := Lib.hid (pub10 t h0 (by omega) n hr)
        by_cases h48 : 48 < n
        · have hfin : pe = .tuple #[mv [0, 0, 0, 0, 0, 0], .int .i64 24] := by
            rw [← HPE.out]
            unfold pmk
            rw [if_neg (by omega), if_neg hnl, hr]
            simp only
            rw [if_pos h48]
            rfl
          have HFIN := Lib.hid hfin
          have h48' : (48 : Int) < (n : Int) := by omega
          clear hr hfin hlen hm h2 hnl h0
          go_enter Tryd.func40, Tryd.ntmps40
          go_wp2_with fail
          refine (HP.out _).mono ?_
          rintro e w1 ⟨rfl, hk1⟩
          have hb := HZ.out.kept hk1 (fun hf => hf)
          have HK1 := Lib.hid (((Kept.refl Nil w).alloc _).then hk1)
          have y0 := hb.cell 0
          have z0 := hb.frozen 0
          have y1 := hb.cell 1
          have z1 := hb.frozen 1
          have y2 := hb.cell 2
          have z2 := hb.frozen 2
          have y3 := hb.cell 3
          have z3 := hb.frozen 3
          have y4 := hb.cell 4
          have z4 := hb.frozen 4
          have y5 := hb.cell 5
          have z5 := hb.frozen 5
          simp at y0 y1 y2 y3 y4 y5
          clear hb hk1
          go_wp2
          refine bodyPost_ret (v := .tuple #[.agg #[.int .u8 0, .int .u8 0, .int .u8 0, .int .u8 0, .int .u8 0, .int .u8 0], .int .i64 24]) (by simp [results, Tryd.results40, go_sem, y0, y1, y2, y3, y4, y5]) rfl ⟨?_, ?_⟩
          · rw [HFIN.out]
            rfl
          · exact HK1.out.fresh (((((((Kept.refl (fun i => w.heap.size ≤ i) w1).put (Nat.le_refl _) _).put (Nat.le_refl _) _).put (Nat.le_refl _) _).put (Nat.le_refl _) _).put (Nat.le_refl _) _).put (Nat.le_refl _) _) (fun i hi => hi)
        · have hfin : pe = .tuple #[mv (maskL n), .int .i64 0] := by
            rw [← HPE.out]
            unfold pmk
            rw [if_neg (by omega), if_neg hnl, hr]
            simp only
            rw [if_neg h48]
            rfl
          have HFIN := Lib.hid hfin
          have h := parseMask_ok t h0 (by omega) n hr (by omega) w
          exact h.mono fun e w' ⟨h1, h2⟩ => ⟨by rw [h1, HFIN.out], h2⟩

end Go.Proofs.YtifoepglhlpoiaaDoor
