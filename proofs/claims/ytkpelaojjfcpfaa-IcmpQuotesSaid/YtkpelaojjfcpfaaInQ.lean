/- Package inet: contracts of fragment and Put. -/
import Derived.Test.YtkpelaojjfcpfaaInL
import Derived.Test.YtkpelaojjfcpfaaCat
import Derived.Test.YtkpelaojjfcpfaaPadC
import Derived.Test.YtkpelaojjfcpfaaRegJ
import Derived.Test.YtkpelaojjfcpfaaEthT
namespace Go.Proofs.Ytkpelaojjfcpfaa
open Go.RowKit Go.Sort
set_option linter.unusedVariables false

theorem or_step (k K P Q : Nat) (hk : k < 8192) (hK : K % 8192 = 0) (hQ8 : Q % 8192 = 0) (hQ : K ||| P = Q) : (k + K) ||| P = k + Q := by
  rw [Nat.add_comm k K, ← nat_join 13 K k hK hk, Nat.or_assoc, Nat.or_comm k P, ← Nat.or_assoc, hQ, nat_join 13 Q k hQ8 hk, Nat.add_comm]
theorem or_16 (k K P Q : Nat) (hk : k < 8192) (hK : K % 8192 = 0) (hQ8 : Q % 8192 = 0) (hQ : K ||| P = Q) (hK6 : K < 57345) (hP6 : P < 65536) : bits .or .u16 ((k + K : Nat) : Int) (P : Int) = ((k + Q : Nat) : Int) := by
  rw [u16_or_nat _ _ (by omega) hP6, or_step k K P Q hk hK hQ8 hQ]
set_option maxRecDepth 100000 in
set_option maxHeartbeats 2000000 in
theorem ifrag_yes (h : Hd) (A : Option Addr) (n c : Nat) (h0 : 0 ≤ h.o) (h1 : h.o ≤ 8191) (w : World) : Calls Try.prog 38 #[hdv h A n c] w fun e w' => e = .returned (.int .u16 (bitsM h : Int)) ∧ Kept Nil w w' := by
  have hP := HB.new w 47 h A n c
  have hk := (Kept.refl Nil w).alloc (.cells (hcs h A n c).toArray 47)
  obtain ⟨k, hko⟩ : ∃ k : Nat, h.o = (k : Int) := ⟨h.o.toNat, by omega⟩
  have hk8 : k < 8192 := by omega
  go_enter Try.func38, Try.ntmps38
  go_upto_region 1 with (fail)
  refine wp_nameE (fun W => HB W w.heap.size 47 h A n c ∧ Kept Nil w W) ⟨hP, hk⟩ ?_
  clear hP hk
  rintro W ⟨hP, hk⟩
  have c0 := hP.co
  have c1 := hP.ce
  have c2 := hP.cd
  have c3 := hP.cm
  have HK := Lib.hid hk
  have hb : bitsM h = k + (if h.e then 32768 else 0) + (if h.d then 16384 else 0) + (if h.m then 8192 else 0) := by unfold bitsM; rw [hko]; rfl
  rw [hko] at c0
  have hwk : IntKind.u16.wrap (k : Int) = (k : Int) := IntWalk.u16_in _ (by omega)
  clear hP hk
  generalize h.e = E at *
  generalize h.d = D at *
  generalize h.m = M at *
  have HBI := Lib.hid hb
  clear hb hko

  cases E <;> cases D <;> cases M
  · have HR := Lib.hid (show bitsM h = k + 0 by rw [HBI.out]; simp)
    clear HBI
    go_wp2
    go_ret
    exact ⟨by rw [HR.out]; first | rfl | go_num, HK.out⟩
  · have HR := Lib.hid (show bitsM h = k + 8192 by rw [HBI.out]; simp)
    have r1 : bits .or .u16 (k : Int) 8192 = ((k + 8192 : Nat) : Int) := or_16 k 0 8192 8192 hk8 (by decide) (by decide) (by decide) (by decide) (by decide)
    rw [show ((k + 8192 : Nat) : Int) = (k : Int) + 8192 by omega] at r1
    clear HBI
    go_wp2
    go_ret
    exact ⟨by rw [HR.out]; first | rfl | go_num, HK.out⟩
  · have HR := Lib.hid (show bitsM h = k + 16384 by rw [HBI.out]; simp)
    have r1 : bits .or .u16 (k : Int) 16384 = ((k + 16384 : Nat) : Int) := or_16 k 0 16384 16384 hk8 (by decide) (by decide) (by decide) (by decide) (by decide)
    rw [show ((k + 16384 : Nat) : Int) = (k : Int) + 16384 by omega] at r1
    clear HBI
    go_wp2
    go_ret
    exact ⟨by rw [HR.out]; first | rfl | go_num, HK.out⟩
  · have HR := Lib.hid (show bitsM h = k + 24576 by rw [HBI.out]; simp)
    have r1 : bits .or .u16 (k : Int) 16384 = ((k + 16384 : Nat) : Int) := or_16 k 0 16384 16384 hk8 (by decide) (by decide) (by decide) (by decide) (by decide)
    have r2 : bits .or .u16 ((k + 16384 : Nat) : Int) 8192 = ((k + 24576 : Nat) : Int) := or_16 k 16384 8192 24576 hk8 (by decide) (by decide) (by decide) (by decide) (by decide)
    rw [show ((k + 16384 : Nat) : Int) = (k : Int) + 16384 by omega] at r1 r2
    rw [show ((k + 24576 : Nat) : Int) = (k : Int) + 24576 by omega] at r2
    clear HBI
    go_wp2
    go_ret
    exact ⟨by rw [HR.out]; first | rfl | go_num, HK.out⟩
  · have HR := Lib.hid (show bitsM h = k + 32768 by rw [HBI.out]; simp)
    have r1 : bits .or .u16 (k : Int) 32768 = ((k + 32768 : Nat) : Int) := or_16 k 0 32768 32768 hk8 (by decide) (by decide) (by decide) (by decide) (by decide)
    rw [show ((k + 32768 : Nat) : Int) = (k : Int) + 32768 by omega] at r1
    clear HBI
    go_wp2
    go_ret
    exact ⟨by rw [HR.out]; first | rfl | go_num, HK.out⟩
  · have HR := Lib.hid (show bitsM h = k + 40960 by rw [HBI.out]; simp)
    have r1 : bits .or .u16 (k : Int) 32768 = ((k + 32768 : Nat) : Int) := or_16 k 0 32768 32768 hk8 (by decide) (by decide) (by decide) (by decide) (by decide)
    have r2 : bits .or .u16 ((k + 32768 : Nat) : Int) 8192 = ((k + 40960 : Nat) : Int) := or_16 k 32768 8192 40960 hk8 (by decide) (by decide) (by decide) (by decide) (by decide)
    rw [show ((k + 32768 : Nat) : Int) = (k : Int) + 32768 by omega] at r1 r2
    rw [show ((k + 40960 : Nat) : Int) = (k : Int) + 40960 by omega] at r2
    clear HBI
    go_wp2
    go_ret
    exact ⟨by rw [HR.out]; first | rfl | go_num, HK.out⟩
  · have HR := Lib.hid (show bitsM h = k + 49152 by rw [HBI.out]; simp)
    have r1 : bits .or .u16 (k : Int) 32768 = ((k + 32768 : Nat) : Int) := or_16 k 0 32768 32768 hk8 (by decide) (by decide) (by decide) (by decide) (by decide)
    have r2 : bits .or .u16 ((k + 32768 : Nat) : Int) 16384 = ((k + 49152 : Nat) : Int) := or_16 k 32768 16384 49152 hk8 (by decide) (by decide) (by decide) (by decide) (by decide)
    rw [show ((k + 32768 : Nat) : Int) = (k : Int) + 32768 by omega] at r1 r2
    rw [show ((k + 49152 : Nat) : Int) = (k : Int) + 49152 by omega] at r2
    clear HBI
    go_wp2
    go_ret
    exact ⟨by rw [HR.out]; first | rfl | go_num, HK.out⟩
  · have HR := Lib.hid (show bitsM h = k + 57344 by rw [HBI.out]; simp)
    have r1 : bits .or .u16 (k : Int) 32768 = ((k + 32768 : Nat) : Int) := or_16 k 0 32768 32768 hk8 (by decide) (by decide) (by decide) (by decide) (by decide)
    have r2 : bits .or .u16 ((k + 32768 : Nat) : Int) 16384 = ((k + 49152 : Nat) : Int) := or_16 k 32768 16384 49152 hk8 (by decide) (by decide) (by decide) (by decide) (by decide)
    rw [show ((k + 32768 : Nat) : Int) = (k : Int) + 32768 by omega] at r1 r2
    have r3 : bits .or .u16 ((k + 49152 : Nat) : Int) 8192 = ((k + 57344 : Nat) : Int) := or_16 k 49152 8192 57344 hk8 (by decide) (by decide) (by decide) (by decide) (by decide)
    rw [show ((k + 49152 : Nat) : Int) = (k : Int) + 49152 by omega] at r2 r3
    rw [show ((k + 57344 : Nat) : Int) = (k : Int) + 57344 by omega] at r3
    clear HBI
    go_wp2
    go_ret
    exact ⟨by rw [HR.out]; first | rfl | go_num, HK.out⟩
/-- What has been laid behind so many calls. -/
def lsH (f0 : Nat) (h : Hd) (all : Nat) : Nat → List UInt8
  | 0 => []
  | 1 => []
  | 2 => beAll 1 [f0, h.t.toNat]
  | 3 => beAll 1 [f0, h.t.toNat] ++ beAll 2 [all, h.i, bitsM h]
  | 4 => beAll 1 [f0, h.t.toNat] ++ beAll 2 [all, h.i, bitsM h] ++ beAll 1 [h.l.toNat, h.p.toNat]
  | 5 => beAll 1 [f0, h.t.toNat] ++ beAll 2 [all, h.i, bitsM h] ++ beAll 1 [h.l.toNat, h.p.toNat] ++ beAll 2 [0]
  | 6 => beAll 1 [f0, h.t.toNat] ++ beAll 2 [all, h.i, bitsM h] ++ beAll 1 [h.l.toNat, h.p.toNat] ++ beAll 2 [0] ++ beAll 4 [h.s, h.g]
  | _ => beAll 1 [f0, h.t.toNat] ++ beAll 2 [all, h.i, bitsM h] ++ beAll 1 [h.l.toNat, h.p.toNat] ++ beAll 2 [0] ++ beAll 4 [h.s, h.g] ++ h.x
theorem lsH_len (f0 : Nat) (h : Hd) (all i : Nat) : (lsH f0 h all i).length ≤ 20 + h.x.length := by
  unfold lsH
  split <;> simp only [List.length_append, beAll_len, List.length_cons, List.length_nil] <;> omega
theorem be1 (x : Nat) : beM 1 x = [UInt8.ofNat x] := by simp [beM, List.range_succ]
theorem lsH_all (f0 : Nat) (h : Hd) (all : Nat) (hf : f0 = 64 + (20 + h.x.length) / 4) : lsH f0 h all 7 = headB h all 0 := by
  subst hf
  show beAll 1 [64 + (20 + h.x.length) / 4, h.t.toNat] ++ beAll 2 [all, h.i, bitsM h] ++ beAll 1 [h.l.toNat, h.p.toNat] ++ beAll 2 [0] ++ beAll 4 [h.s, h.g] ++ h.x = _
  unfold headB
  simp only [beAll, List.map_cons, List.map_nil, List.flatten_cons, List.flatten_nil, be1, UInt8.ofNat_toNat, List.append_nil, List.append_assoc, List.cons_append, List.nil_append]
theorem head_set (h : Hd) (all S : Nat) : ((headB h all 0).set 10 (UInt8.ofNat (S / 256))).set 11 (UInt8.ofNat S) = headB h all S := by
  obtain ⟨a0, a1, i0, i1, b0, b1, s0, s1, x0, x1, x2, x3, y0, y1, y2, y3, ea, ei, eb, es, ex, ey, e⟩ := headB_bytes h all 0
  obtain ⟨a0', a1', i0', i1', b0', b1', s0', s1', x0', x1', x2', x3', y0', y1', y2', y3', ea', ei', eb', es', ex', ey', e'⟩ := headB_bytes h all S
  rw [ea] at ea'
  rw [ei] at ei'
  rw [eb] at eb'
  rw [ex] at ex'
  rw [ey] at ey'
  cases ea'
  cases ei'
  cases eb'
  cases ex'
  cases ey'
  rw [beM_two] at es'
  cases es'
  rw [e, e']
  rfl
theorem concat_two (A : Option Addr) (n c : Nat) (B : Option Addr) (m d : Nat) (a b : List UInt8) (w : World) (hA : Byt w A n c a) (hB : Byt w B m d b) (g : Nat) (hg : g = w.heap.size) (T : TypeId) (hl : a.length + b.length ≤ 1099511627776) :
    Calls Try.prog 40 #[.slice (some ⟨g, 0, none⟩) 2 2] (w.alloc (.cells #[.slice A n c, .slice B m d] T)) fun e w' => ∃ v, e = .returned v ∧ Made w w' v (a ++ b) := by
  subst hg
  have hk := (Kept.refl Nil w).alloc (.cells #[.slice A n c, .slice B m d] T)
  refine (concat_b w.heap.size 2 T [.slice A n c, .slice B m d] [a, b] _ (Blo.new w T _) rfl rfl (by omega) ?_ (by simp; omega)).mono ?_
  · intro i h1 h2
    match i, h1 with
    | 0, _ => exact ⟨A, n, c, rfl, hA.kept hk (fun _ _ hf => hf)⟩
    | 1, _ => exact ⟨B, m, d, rfl, hB.kept hk (fun _ _ hf => hf)⟩
  · rintro e w' ⟨v, rfl, hm⟩
    have hf : [a, b].flatten = a ++ b := by simp
    rw [hf] at hm
    exact ⟨v, rfl, own_mono hm.1 (by simp), hk.then hm.2⟩
theorem or_64 (k : Nat) (h : k < 16) : bits .or .u8 64 (k : Int) = ((64 + k : Nat) : Int) := by
  have := u8_or_nat 64 k (by omega) (by omega)
  rw [nat_join 6 64 k (by decide) (by omega)] at this
  exact this

set_option maxRecDepth 100000 in
set_option maxHeartbeats 16000000 in
theorem iput_yes (h : Hd) (hok : h.ok) (A : Option Addr) (n c : Nat) (B : Option Addr) (m d : Nat) (body : List UInt8) (w : World) (hx : Byt w A n c h.x) (hy : Byt w B m d body) (hn : n ≤ 1099511627776) (hm : m ≤ 1099511627776) :
    Calls Try.prog 15 #[hdv h A n c, .slice B m d] w fun e w' => ∃ v, e = .returned (.tuple #[v, .int .i64 (putHM h body).2]) ∧ Made w w' v (putHM h body).1 := by
  have hP := HB.new w 47 h A n c
  have hk := (Kept.refl Nil w).alloc (.cells (hcs h A n c).toArray 47)
  have HPU := Lib.hid (show putHM h body = if h.o < 0 ∨ 8191 < h.o ∨ optsM h.x = false ∨ fitsM h body.length = false then ([], 1) else if 65535 < 20 + h.x.length + body.length then ([], 3) else (headB h (20 + h.x.length + body.length) (sumM (headB h (20 + h.x.length + body.length) 0)) ++ body, 0) from rfl)
  have hxl := hx.1
  have hyl := hy.1
  rw [hxl, hyl] at HPU
  have hopt := fun u hu => imay_yes A n c h.x u hu hn
  have HOP := Lib.hid hopt
  have HX := Lib.hid hx
  have HY := Lib.hid hy
  have HXL := Lib.hid hxl
  have HYL := Lib.hid hyl
  have hmd := hy.2.1
  have hmd2 := hy.2.2.1
  have HOK := Lib.hid hok
  have hob := hok.o
  have HR0 := fun (er : Int) (u : World) (hk : Kept Nil w u) (hp : putHM h body = ([], er)) => (show ∃ v, Ending.returned (.tuple #[.slice none 0 0, .int .i64 er]) = Ending.returned (.tuple #[v, .int .i64 (putHM h body).2]) ∧ Made w u v (putHM h body).1 from ⟨.slice none 0 0, by rw [hp], by rw [hp]; exact World.ownsRow_nil _ _ _ _, hk⟩)
  have HR0 := Lib.hid HR0
  obtain ⟨R, hR⟩ : ∃ r, putHM h body = r := ⟨_, rfl⟩
  rw [hR] at HPU HR0 ⊢
  clear hopt hx hy hxl hyl hok hR
  go_enter Try.func15, Try.ntmps15
  go_upto_region 1 with (fail)
  refine wp_nameE (fun W => HB W w.heap.size 47 h A n c ∧ Kept Nil w W) ⟨hP, hk⟩ ?_
  clear hP hk
  rintro W ⟨hP, hk⟩
  have c7 := hP.co
  have c10 := hP.cx
  have HP := Lib.hid hP
  have HK := Lib.hid hk
  obtain ⟨gh, hgh⟩ : ∃ g, w.heap.size = g := ⟨_, rfl⟩
  rw [hgh] at HP c7 c10 ⊢
  have HGH := Lib.hid (show w.heap.size ≤ gh by omega)
  clear hP hk hgh
  by_cases h0 : h.o < 0
  · have HRR := Lib.hid (show R = ([], 1) by rw [HPU.out, if_pos (.inl h0)])
    go_wp2
    go_ret2
    exact HR0.out 1 _ HK.out HRR.out
  · by_cases h1 : 8191 < h.o
    · have HRR := Lib.hid (show R = ([], 1) by rw [HPU.out, if_pos (.inr (.inl h1))])
      go_wp2
      go_ret2
      exact HR0.out 1 _ HK.out HRR.out
    · have HHO := Lib.hid (show 0 ≤ h.o ∧ h.o ≤ 8191 by omega)
      have HFI := Lib.hid (fun u => ihold_yes h A n c m HHO.out hm u)
      cases hop : optsM h.x
      · have HRR := Lib.hid (show R = ([], 1) by rw [HPU.out, if_pos (.inr (.inr (.inl hop)))])
        rw [hop] at HOP
        clear hop
        go_wp2_with (fail)
        refine (HOP.out _ (HX.out.kept HK.out (fun _ _ hf => hf))).mono ?_
        rintro e w1 ⟨rfl, rfl⟩
        go_wp2
        go_ret2
        exact HR0.out 1 _ HK.out HRR.out
      · have hop4 := opts_len hop
        rw [HXL.out] at hop4
        rw [hop] at HOP
        cases hft : fitsM h m
        · have HRR := Lib.hid (show R = ([], 1) by rw [HPU.out, if_pos (.inr (.inr (.inr hft)))])
          rw [hft] at HFI
          clear hop hft
          go_wp2_with (fail)
          refine (HOP.out _ (HX.out.kept HK.out (fun _ _ hf => hf))).mono ?_
          rintro e w1 ⟨rfl, rfl⟩
          go_wp2_with (first
            | (refine wpList_ld rfl _ _ rfl gh 0 rfl (hcs h A n c) HP.out.all _ Try.underlying47 rfl (infHi _ _ _ _) ?_; simp only [Act.put, List.setIfInBounds_toArray, List.set_cons_succ, List.set_cons_zero])
            | fail)
          refine (HFI.out _).mono ?_
          rintro e w2 ⟨rfl, hk⟩
          have HK2 := Lib.hid (HK.out.then hk)
          clear hk
          go_wp2
          go_ret2
          exact HR0.out 1 _ HK2.out HRR.out
        · have HPV := Lib.hid (show R = if 65535 < 20 + n + m then ([], 3) else (headB h (20 + n + m) (sumM (headB h (20 + n + m) 0)) ++ body, 0) by
            rw [HPU.out, if_neg]
            rintro (h' | h' | h' | h')
            · exact h0 h'
            · exact h1 h'
            · rw [hop] at h'; cases h'
            · rw [hft] at h'; cases h')
          rw [hft] at HFI
          have HSZ := Lib.hid (fun u => isize_yes h A n c hn u)
          clear hop hft HPU
          go_wp2_with (fail)
          refine (HOP.out _ (HX.out.kept HK.out (fun _ _ hf => hf))).mono ?_
          rintro e w1 ⟨rfl, rfl⟩
          go_wp2_with (first
            | (refine wpList_ld rfl _ _ rfl gh 0 rfl (hcs h A n c) HP.out.all _ Try.underlying47 rfl (infHi _ _ _ _) ?_; simp only [Act.put, List.setIfInBounds_toArray, List.set_cons_succ, List.set_cons_zero])
            | fail)
          refine (HFI.out _).mono ?_
          rintro e w2 ⟨rfl, hk⟩
          have HK2 := Lib.hid (HK.out.then hk)
          have HP2 := Lib.hid (HP.out.kept hk (fun hf => hf))
          clear hk HK HP c7 c10 HFI HOP h0 h1 hob
          go_wp2_with (first
            | (refine wpList_ld rfl _ _ rfl gh 0 rfl (hcs h A n c) HP2.out.all _ Try.underlying47 rfl (infHi _ _ _ _) ?_; simp only [Act.put, List.setIfInBounds_toArray, List.set_cons_succ, List.set_cons_zero])
            | fail)
          refine (HSZ.out _).mono ?_
          rintro e w3 ⟨rfl, hk⟩
          have HK3 := Lib.hid (HK2.out.then hk)
          have HP3 := Lib.hid (HP2.out.kept hk (fun hf => hf))
          clear hk HK2 HP2
          by_cases hl : 65535 < 20 + n + m
          · have hl' : (65535 : Int) < ((20 + n : Nat) : Int) + (m : Int) := by omega
            have HRR := Lib.hid (show R = ([], 3) by rw [HPV.out, if_pos hl])
            clear hl
            go_wp2
            go_ret2
            exact HR0.out 3 _ HK3.out HRR.out
          · have hl' : ¬ (65535 : Int) < ((20 + n : Nat) : Int) + (m : Int) := by omega
            obtain ⟨al, hal⟩ : ∃ a, 20 + n + m = a := ⟨_, rfl⟩
            have HRR := Lib.hid (show R = (headB h al (sumM (headB h al 0)) ++ body, 0) by rw [HPV.out, if_neg hl, hal])
            obtain ⟨sz, hsz⟩ : ∃ s, 20 + n = s := ⟨_, rfl⟩
            have hal2 : ((20 + n : Nat) : Int) + (m : Int) = (al : Int) := by omega
            rw [hal2] at hl'
            rw [hsz] at hal2 HSZ ⊢
            have hal6 : al ≤ 65535 := by omega
            have hsz4 : ((sz : Int) / 4) = ((sz / 4 : Nat) : Int) := by omega
            have HOR := Lib.hid (or_64 (sz / 4) (by omega))
            have hq16 : sz / 4 < 16 := by omega
            have HQ := Lib.hid (show sz / 4 = (20 + h.x.length) / 4 by rw [HXL.out, hsz])
            obtain ⟨q, hq⟩ : ∃ q, sz / 4 = q := ⟨_, rfl⟩
            rw [hq] at hsz4 HOR hq16 HQ
            have HAL := Lib.hid hal6
            have HN40 := Lib.hid (show n ≤ 40 by omega)
            have HHL := Lib.hid (show sz = 20 + n from hsz.symm)
            have HFR := Lib.hid (fun u => ifrag_yes h A n c HHO.out.1 HHO.out.2 u)
            have HBT := Lib.hid (bits_lt h HHO.out.2)
            clear hl hal hsz hq hop4 HPV HHO
            obtain ⟨f0, hf0⟩ : ∃ f, 64 + q = f := ⟨_, rfl⟩
            have hor : bits .or .u8 64 (q : Int) = (f0 : Int) := by rw [HOR.out, hf0]
            have HF0 := Lib.hid (show f0 = 64 + (20 + h.x.length) / 4 by rw [← hf0, HQ.out])
            have hf8 : f0 < 256 := by omega
            have HF8 := Lib.hid hf8
            have HS2 := Lib.hid (show ∀ u, Calls Try.prog 37 #[.agg (hcs h A n c).toArray] u fun e w' => e = .returned (.int .i64 (sz : Int)) ∧ Kept Nil u w' from HSZ.out)
            have HF2 := Lib.hid (show ∀ u, Calls Try.prog 38 #[.agg (hcs h A n c).toArray] u fun e w' => e = .returned (.int .u16 (bitsM h : Int)) ∧ Kept Nil u w' from HFR.out)
            obtain ⟨fr, hfr⟩ : ∃ f, bitsM h = f := ⟨_, rfl⟩
            have HFB := Lib.hid hfr
            rw [hfr] at HF2 HBT
            have HKP := Lib.hid (padJ_keeps w3.heap.size (lsH f0 h al))
            have HST := Lib.hid (padJ_nil w3 (lsH f0 h al))
            have HLE := Lib.hid (lsH_len f0 h al)
            have HX3 := Lib.hid (HX.out.kept HK3.out (fun _ _ hf => hf))
            have HY3 := Lib.hid (HY.out.kept HK3.out (fun _ _ hf => hf))
            have hlen40 : (∀ i, (lsH f0 h al i).length ≤ 60) := fun i => by have := lsH_len f0 h al i; have := HN40.out; have := HXL.out; omega
            have HL60 := Lib.hid hlen40
            clear hfr hf0 hlen40 HSZ HFR HOR HQ HX HLE
            go_upto_region 6 with (fail)
            refine wp_region_acts Nil [0, 9, 17, 23, 25, 31, 34] (fun i vl => if i = 8 then (vl.toArray, 5) else if i = 16 then (vl.toArray, 35) else if i = 22 then (vl.toArray, 5) else if i = 24 then (vl.toArray, 35) else (vl.toArray, 44)) (fun i => if i = 2 then .int .i64 (sz : Int) else if i = 15 then .int .u16 (fr : Int) else undef) (padJ w3.heap.size (lsH f0 h al)) padP 35 (by kernel_rfl) (by kernel_rfl) HKP.out HST.out ?_
            simp only [List.take_succ_cons, List.take_zero, List.drop_succ_cons, List.drop_zero]
            refine tLex_act 28 #[] (fun u => ?hea) rfl rfl _ (padP_0 _) ?hca ?_
            case hea => simp [execOp, go_sem]
            case hca =>
              intro D u hu hI hdd
              exact padJ_lay hu hI rfl _
            rintro r0 ⟨g, rfl⟩
            simp only [Act.put, List.setIfInBounds_toArray, List.set_cons_succ, List.set_cons_zero]

            refine tLex_quiets 7 rfl (by kernel_rfl) ?_
            simp only [List.take_succ_cons, List.take_zero, List.drop_succ_cons, List.drop_zero]
            apply Exists.intro
            refine ⟨?hqA, ?hvA, ?htA⟩
            case hqA =>
              intro V hV
              have hbV : Hid (HB V gh 47 h A n c) := HP3.out.kept hV (fun hf => hf)
              have ect := fun d os => (HB.kept hbV.out (kept_grown' V d os) (fun hf => hf)).ct
              clear hV
              repeat (first
                | (refine wpQuiet_ld rfl _ _ rfl gh 0 rfl (hcs h A n c) (fun w1 hw => row_grown hbV.out.all hw) _ Try.underlying47 rfl (infHi _ _ _ _) ?_; simp only [Act.put, List.setIfInBounds_toArray, List.set_cons_succ, List.set_cons_zero])
                | (go_big_quiet_step (first | with_reducible exact quietK (HS2.out _) | with_reducible exact quietK (HF2.out _))))
              exact wpQuiet_nil rfl
            case hvA => exact ⟨trivial, rfl, trivial, trivial, trivial, trivial, trivial, trivial⟩
            refine tLex_make (#[.int .u8 (f0 : Int), .int .u8 (h.t.toNat : Int)], 5) rfl rfl rfl rfl (fun u => ?hmA) ?_
            case hmA => simp [execOp, mkVal, Instr.buildSlice, go_sem]
            intro qa hg hL
            simp only [Act.put, mkVal, List.setIfInBounds_toArray, List.set_cons_succ, List.set_cons_zero]
            refine tLex_act 29 #[.pointer (some ⟨g, 0, none⟩), .slice (some ⟨qa, 0, none⟩) 2 2] (fun u => ?heB) rfl rfl _ (padP_0 _) ?hcB ?_
            case heB => simp [execOp, go_sem, mkVal]
            case hcB =>
              intro D u hu hI hdd
              obtain ⟨d1, d2⟩ := hdd _ _ ⟨_, List.mem_cons_of_mem _ (List.mem_cons_of_mem _ (List.mem_cons_self ..)), rfl⟩ (mput_same _ _ _)
              exact padJ_byte (n := 2) [f0, h.t.toNat] hu hI (by simp) d1 d2 rfl rfl (by first | rfl | (show lsH f0 h al 2 = lsH f0 h al 1 ++ _; rw [← HFB.out]; rfl)) (by have := HL60.out 1; show (lsH f0 h al 1).length + _ ≤ _; simp; omega) (by intro x hx; simp only [List.mem_cons, List.not_mem_nil, or_false] at hx; rcases hx with rfl | rfl; exact HF8.out; exact UInt8.toNat_lt _) _
            rintro rg1 ⟨g1, rfl⟩
            simp only [Act.put, List.setIfInBounds_toArray, List.set_cons_succ, List.set_cons_zero]
            refine tLex_quiets 6 rfl (by kernel_rfl) ?_
            simp only [List.take_succ_cons, List.take_zero, List.drop_succ_cons, List.drop_zero]
            apply Exists.intro
            refine ⟨?hqC, ?hvC, ?htC⟩
            case hqC =>
              intro V hV
              have hbV : Hid (HB V gh 47 h A n c) := HP3.out.kept hV (fun hf => hf)
              have eci := fun d os => (HB.kept hbV.out (kept_grown' V d os) (fun hf => hf)).ci
              clear hV
              repeat (first
                | (refine wpQuiet_ld rfl _ _ rfl gh 0 rfl (hcs h A n c) (fun w1 hw => row_grown hbV.out.all hw) _ Try.underlying47 rfl (infHi _ _ _ _) ?_; simp only [Act.put, List.setIfInBounds_toArray, List.set_cons_succ, List.set_cons_zero])
                | (go_big_quiet_step (first | with_reducible exact quietK (HS2.out _) | with_reducible exact quietK (HF2.out _))))
              exact wpQuiet_nil rfl
            case hvC => exact ⟨trivial, trivial, trivial, trivial, trivial, rfl, trivial⟩
            refine tLex_make (#[.int .u16 (al : Int), .int .u16 (h.i : Int), .int .u16 (fr : Int)], 35) rfl rfl rfl rfl (fun u => ?hmC) ?_
            case hmC => simp [execOp, mkVal, Instr.buildSlice, go_sem]
            intro qc hg hL
            simp only [Act.put, mkVal, List.setIfInBounds_toArray, List.set_cons_succ, List.set_cons_zero]
            refine tLex_act 30 #[.pointer (some ⟨g1, 0, none⟩), .slice (some ⟨qc, 0, none⟩) 3 3] (fun u => ?heD) rfl rfl _ (padP_0 _) ?hcD ?_
            case heD => simp [execOp, go_sem, mkVal]
            case hcD =>
              intro D u hu hI hdd
              obtain ⟨d1, d2⟩ := hdd _ _ ⟨_, List.mem_cons_of_mem _ (List.mem_cons_of_mem _ (List.mem_cons_self ..)), rfl⟩ (mput_same _ _ _)
              exact padJ_two (n := 3) [al, h.i, fr] hu hI (by simp) d1 d2 rfl rfl (by first | rfl | (show lsH f0 h al 3 = lsH f0 h al 2 ++ _; rw [← HFB.out]; rfl)) (by have := HL60.out 2; show (lsH f0 h al 2).length + _ ≤ _; simp; omega) (by intro x hx; simp only [List.mem_cons, List.not_mem_nil, or_false] at hx; rcases hx with rfl | rfl | rfl; exact Nat.lt_of_le_of_lt HAL.out (by decide); exact HOK.out.i; exact HBT.out) _
            rintro rg2 ⟨g2, rfl⟩
            simp only [Act.put, List.setIfInBounds_toArray, List.set_cons_succ, List.set_cons_zero]
            refine tLex_quiets 4 rfl (by kernel_rfl) ?_
            simp only [List.take_succ_cons, List.take_zero, List.drop_succ_cons, List.drop_zero]
            apply Exists.intro
            refine ⟨?hqE, ?hvE, ?htE⟩
            case hqE =>
              intro V hV
              have hbV : Hid (HB V gh 47 h A n c) := HP3.out.kept hV (fun hf => hf)
              have ecl := fun d os => (HB.kept hbV.out (kept_grown' V d os) (fun hf => hf)).cl
              have ecp := fun d os => (HB.kept hbV.out (kept_grown' V d os) (fun hf => hf)).cp
              clear hV
              repeat (first
                | (refine wpQuiet_ld rfl _ _ rfl gh 0 rfl (hcs h A n c) (fun w1 hw => row_grown hbV.out.all hw) _ Try.underlying47 rfl (infHi _ _ _ _) ?_; simp only [Act.put, List.setIfInBounds_toArray, List.set_cons_succ, List.set_cons_zero])
                | (go_big_quiet_step (first | with_reducible exact quietK (HS2.out _) | with_reducible exact quietK (HF2.out _))))
              exact wpQuiet_nil rfl
            case hvE => exact ⟨trivial, trivial, trivial, trivial, trivial⟩
            refine tLex_make (#[.int .u8 (h.l.toNat : Int), .int .u8 (h.p.toNat : Int)], 5) rfl rfl rfl rfl (fun u => ?hmE) ?_
            case hmE => simp [execOp, mkVal, Instr.buildSlice, go_sem]
            intro qe hg hL
            simp only [Act.put, mkVal, List.setIfInBounds_toArray, List.set_cons_succ, List.set_cons_zero]
            refine tLex_act 29 #[.pointer (some ⟨g2, 0, none⟩), .slice (some ⟨qe, 0, none⟩) 2 2] (fun u => ?heF) rfl rfl _ (padP_0 _) ?hcF ?_
            case heF => simp [execOp, go_sem, mkVal]
            case hcF =>
              intro D u hu hI hdd
              obtain ⟨d1, d2⟩ := hdd _ _ ⟨_, List.mem_cons_of_mem _ (List.mem_cons_of_mem _ (List.mem_cons_self ..)), rfl⟩ (mput_same _ _ _)
              exact padJ_byte (n := 2) [h.l.toNat, h.p.toNat] hu hI (by simp) d1 d2 rfl rfl (by first | rfl | (show lsH f0 h al 4 = lsH f0 h al 3 ++ _; rw [← HFB.out]; rfl)) (by have := HL60.out 3; show (lsH f0 h al 3).length + _ ≤ _; simp; omega) (by intro x hx; simp only [List.mem_cons, List.not_mem_nil, or_false] at hx; rcases hx with rfl | rfl <;> exact UInt8.toNat_lt _) _
            rintro rg3 ⟨g3, rfl⟩
            simp only [Act.put, List.setIfInBounds_toArray, List.set_cons_succ, List.set_cons_zero]
            refine tLex_make (#[.int .u16 0], 35) rfl rfl rfl rfl (fun u => ?hmG) ?_
            case hmG => simp [execOp, mkVal, Instr.buildSlice, go_sem]
            intro qg hg hL
            simp only [Act.put, mkVal, List.setIfInBounds_toArray, List.set_cons_succ, List.set_cons_zero]
            refine tLex_act 30 #[.pointer (some ⟨g3, 0, none⟩), .slice (some ⟨qg, 0, none⟩) 1 1] (fun u => ?heH) rfl rfl _ (padP_0 _) ?hcH ?_
            case heH => simp [execOp, go_sem, mkVal]
            case hcH =>
              intro D u hu hI hdd
              obtain ⟨d1, d2⟩ := hdd _ _ ⟨_, List.mem_cons_of_mem _ (List.mem_cons_of_mem _ (List.mem_cons_self ..)), rfl⟩ (mput_same _ _ _)
              exact padJ_two (n := 1) [0] hu hI (by simp) d1 d2 rfl rfl (by first | rfl | (show lsH f0 h al 5 = lsH f0 h al 4 ++ _; rw [← HFB.out]; rfl)) (by have := HL60.out 4; show (lsH f0 h al 4).length + _ ≤ _; simp; omega) (by intro x hx; simp only [List.mem_cons, List.not_mem_nil, or_false] at hx; rcases hx with rfl; decide) _
            rintro rg4 ⟨g4, rfl⟩
            simp only [Act.put, List.setIfInBounds_toArray, List.set_cons_succ, List.set_cons_zero]
            refine tLex_quiets 4 rfl (by kernel_rfl) ?_
            simp only [List.take_succ_cons, List.take_zero, List.drop_succ_cons, List.drop_zero]
            apply Exists.intro
            refine ⟨?hqI, ?hvI, ?htI⟩
            case hqI =>
              intro V hV
              have hbV : Hid (HB V gh 47 h A n c) := HP3.out.kept hV (fun hf => hf)
              have ecs := fun d os => (HB.kept hbV.out (kept_grown' V d os) (fun hf => hf)).cs
              have ecg := fun d os => (HB.kept hbV.out (kept_grown' V d os) (fun hf => hf)).cg
              clear hV
              repeat (first
                | (refine wpQuiet_ld rfl _ _ rfl gh 0 rfl (hcs h A n c) (fun w1 hw => row_grown hbV.out.all hw) _ Try.underlying47 rfl (infHi _ _ _ _) ?_; simp only [Act.put, List.setIfInBounds_toArray, List.set_cons_succ, List.set_cons_zero])
                | (go_big_quiet_step (first | with_reducible exact quietK (HS2.out _) | with_reducible exact quietK (HF2.out _))))
              exact wpQuiet_nil rfl
            case hvI => exact ⟨trivial, trivial, trivial, trivial, trivial⟩
            refine tLex_make (#[.int .u32 (h.s : Int), .int .u32 (h.g : Int)], 44) rfl rfl rfl rfl (fun u => ?hmI) ?_
            case hmI => simp [execOp, mkVal, Instr.buildSlice, go_sem]
            intro qi hg hL
            simp only [Act.put, mkVal, List.setIfInBounds_toArray, List.set_cons_succ, List.set_cons_zero]
            refine tLex_act 39 #[.pointer (some ⟨g4, 0, none⟩), .slice (some ⟨qi, 0, none⟩) 2 2] (fun u => ?heJ) rfl rfl _ (padP_0 _) ?hcJ ?_
            case heJ => simp [execOp, go_sem, mkVal]
            case hcJ =>
              intro D u hu hI hdd
              obtain ⟨d1, d2⟩ := hdd _ _ ⟨_, List.mem_cons_of_mem _ (List.mem_cons_of_mem _ (List.mem_cons_self ..)), rfl⟩ (mput_same _ _ _)
              exact padJ_four (n := 2) [h.s, h.g] hu hI (by simp) d1 d2 rfl rfl (by first | rfl | (show lsH f0 h al 6 = lsH f0 h al 5 ++ _; rw [← HFB.out]; rfl)) (by have := HL60.out 5; show (lsH f0 h al 5).length + _ ≤ _; simp; omega) (by intro x hx; simp only [List.mem_cons, List.not_mem_nil, or_false] at hx; rcases hx with rfl | rfl; exact HOK.out.s; exact HOK.out.g) _
            rintro rg5 ⟨g5, rfl⟩
            simp only [Act.put, List.setIfInBounds_toArray, List.set_cons_succ, List.set_cons_zero]
            refine tLex_quiets 2 rfl (by kernel_rfl) ?_
            simp only [List.take_succ_cons, List.take_zero, List.drop_succ_cons, List.drop_zero]
            apply Exists.intro
            refine ⟨?hqK, ?hvK, ?htK⟩
            case hqK =>
              intro V hV
              have hbV : Hid (HB V gh 47 h A n c) := HP3.out.kept hV (fun hf => hf)
              have ecx := fun d os => (HB.kept hbV.out (kept_grown' V d os) (fun hf => hf)).cx
              clear hV
              repeat (first
                | (refine wpQuiet_ld rfl _ _ rfl gh 0 rfl (hcs h A n c) (fun w1 hw => row_grown hbV.out.all hw) _ Try.underlying47 rfl (infHi _ _ _ _) ?_; simp only [Act.put, List.setIfInBounds_toArray, List.set_cons_succ, List.set_cons_zero])
                | (go_big_quiet_step (first | with_reducible exact quietK (HS2.out _) | with_reducible exact quietK (HF2.out _))))
              exact wpQuiet_nil rfl
            case hvK => exact ⟨trivial, trivial, trivial⟩
            refine tLex_act 29 #[.pointer (some ⟨g5, 0, none⟩), .slice A n c] (fun u => ?heL) rfl rfl _ (padP_0 _) ?hcL ?_
            case heL => simp [execOp, go_sem]
            case hcL =>
              intro D u hu hI hdd
              exact padJ_src h.x hu hI (by simp) HX3.out rfl (by have := HL60.out 6; have := HN40.out; show (lsH f0 h al 6).length + n ≤ _; omega) _
            rintro rg6 ⟨g6, rfl⟩
            simp only [Act.put, List.setIfInBounds_toArray, List.set_cons_succ, List.set_cons_zero]
            intro w4 hs
            obtain ⟨v, hall, hpd, -⟩ := padJ_at hs.know (g := g6) (by simp)
            have hpd : Padd w4 w3.heap.size g6 v (lsH f0 h al 7) := hpd
            rw [lsH_all f0 h al HF0.out] at hpd
            have hk34 : Kept Nil w3 w4 := hs.kept
            have HPD := Lib.hid hpd
            have HK4 := Lib.hid (HK3.out.then hk34)
            have HY4 := Lib.hid (HY3.out.kept hk34 (fun _ _ hf => hf))
            have HL4 := Lib.hid (headB_len h al 0)
            have HS3 := Lib.hid (show w.heap.size ≤ w3.heap.size from HK3.out.size)
            clear hs hall hpd hk34
            have hl21 : (headB h al 0).length ≤ 60 := by rw [HL4.out, HXL.out]; have := HN40.out; omega
            have HL21 := Lib.hid hl21
            have hS6 : sumM (headB h al 0) < 65536 := by unfold sumM; omega
            obtain ⟨SM, hSM⟩ : ∃ x, sumM (headB h al 0) = x := ⟨_, rfl⟩
            rw [hSM] at hS6 HRR
            have HSM := Lib.hid hSM
            have HS6 := Lib.hid hS6
            clear hSM hS6 hl21
            go_wp2_with (fail)
            refine (Done_yes _ g6 v _ _ HPD.out (by have := HL21.out; omega)).mono ?_
            rintro e w5 ⟨v5, rfl, hm5⟩
            obtain ⟨A5, c5, rfl, hy5, -⟩ := byt_own hm5
            have HPD5 := Lib.hid (HPD.out.kept hm5.2 (fun _ _ hf => hf))
            have HK5 := Lib.hid (HK4.out.then hm5.2)
            have HY5 := Lib.hid (HY4.out.kept hm5.2 (fun _ _ hf => hf))
            have HB5 := Lib.hid hy5
            clear hm5 hy5 HPD HK4 HY4
            go_wp2_with (fail)
            refine (isum_yes A5 _ c5 _ _ HB5.out (by have := HL21.out; omega)).mono ?_
            rintro e w6 ⟨rfl, hk6⟩
            rw [HSM.out]
            have HPD6 := Lib.hid (HPD5.out.kept hk6 (fun _ _ hf => hf))
            have HK6 := Lib.hid (HK5.out.then hk6)
            have HY6 := Lib.hid (HY5.out.kept hk6 (fun _ _ hf => hf))
            clear hk6 HPD5 HK5 HY5 HB5
            go_wp2_with (fail)
            refine (Fill_ok _ g6 v _ 10 SM _ HPD6.out (by have := HL21.out; omega) (by rw [HL4.out]; omega) HS6.out).mono ?_
            rintro e w7 ⟨rfl, hp7, hk7⟩
            rw [head_set h al SM] at hp7
            have HK7 := Lib.hid (HK6.out.fresh hk7 (fun i hi => by have := HPD6.out.foot_ge i hi; have := HS3.out; omega))
            have HY7 := Lib.hid (HY6.out.kept hk7 (fun i hi hf => by have := HPD6.out.foot_ge i hf; have := HY3.out.lt i hi; omega))
            have HPD7 := Lib.hid hp7
            have HL7 := Lib.hid (headB_len h al SM)
            clear hp7 hk7 HPD6 HK6 HY6
            go_wp2_with (fail)
            refine (Done_yes _ g6 v _ _ HPD7.out (by rw [HL7.out, HXL.out]; have := HN40.out; omega)).mono ?_
            rintro e w8 ⟨v8, rfl, hm8⟩
            obtain ⟨A8, c8, rfl, hy8, -⟩ := byt_own hm8
            have HK8 := Lib.hid (HK7.out.then hm8.2)
            have HY8 := Lib.hid (HY7.out.kept hm8.2 (fun _ _ hf => hf))
            have HB8 := Lib.hid hy8
            clear hm8 hy8 HK7 HY7 HPD7
            go_wp2_with (fail)
            refine (concat_two A8 _ c8 B m d (headB h al SM) body w8 HB8.out HY8.out w8.heap.size rfl _ (by rw [HL7.out, HXL.out, HYL.out]; have := HN40.out; omega)).mono ?_
            rintro e w9 ⟨v9, rfl, hm9⟩
            have HM9 := Lib.hid hm9
            clear hm9
            go_wp2
            go_ret2
            rw [HRR.out]
            exact ⟨v9, rfl, own_mono HM9.out.1 HK8.out.size, HK8.out.then HM9.out.2⟩

end Go.Proofs.Ytkpelaojjfcpfaa
