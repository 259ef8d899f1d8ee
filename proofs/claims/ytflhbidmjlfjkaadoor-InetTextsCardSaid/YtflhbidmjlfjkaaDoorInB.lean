/- Heads of IPv4 in plain words: read, laid, there and back. Nothing of the program is named here. -/
import Derived.Test.YtflhbidmjlfjkaaDoorInA
namespace Go.Proofs.YtflhbidmjlfjkaaDoor
set_option linter.unusedVariables false

theorem numB2 (x : Nat) (h : x < 65536) : numM (beM 2 x) = x := by simp [numM, beM, List.range_succ]; omega
theorem numB4 (x : Nat) (h : x < 4294967296) : numM (beM 4 x) = x := by simp [numM, beM, List.range_succ]; omega
theorem beM_two (x : Nat) : beM 2 x = [UInt8.ofNat (x / 256), UInt8.ofNat x] := by simp [beM, List.range_succ]
theorem beM_num2 (a b : UInt8) : beM 2 (numM [a, b]) = [a, b] := by
  have ha := a.toNat_lt
  have hb := b.toNat_lt
  have e : numM [a, b] = a.toNat * 256 + b.toNat := by simp [numM]
  rw [beM_two, e]
  have e1 : UInt8.ofNat ((a.toNat * 256 + b.toNat) / 256) = a := UInt8.toNat_inj.1 (by rw [UInt8.toNat_ofNat']; omega)
  have e2 : UInt8.ofNat (a.toNat * 256 + b.toNat) = b := UInt8.toNat_inj.1 (by rw [UInt8.toNat_ofNat']; omega)
  rw [e1, e2]
theorem beM_num4 (a b c d : UInt8) : beM 4 (numM [a, b, c, d]) = [a, b, c, d] := by
  have ha := a.toNat_lt
  have hb := b.toNat_lt
  have hc := c.toNat_lt
  have hd := d.toNat_lt
  have e : numM [a, b, c, d] = a.toNat * 16777216 + b.toNat * 65536 + c.toNat * 256 + d.toNat := by simp only [numM, List.foldl_cons, List.foldl_nil]; omega
  rw [e]
  have e0 : ∀ x : Nat, beM 4 x = [UInt8.ofNat (x / 16777216), UInt8.ofNat (x / 65536), UInt8.ofNat (x / 256), UInt8.ofNat x] := fun x => by simp [beM, List.range_succ]
  rw [e0]
  have e1 : UInt8.ofNat ((a.toNat * 16777216 + b.toNat * 65536 + c.toNat * 256 + d.toNat) / 16777216) = a := UInt8.toNat_inj.1 (by rw [UInt8.toNat_ofNat']; omega)
  have e2 : UInt8.ofNat ((a.toNat * 16777216 + b.toNat * 65536 + c.toNat * 256 + d.toNat) / 65536) = b := UInt8.toNat_inj.1 (by rw [UInt8.toNat_ofNat']; omega)
  have e3 : UInt8.ofNat ((a.toNat * 16777216 + b.toNat * 65536 + c.toNat * 256 + d.toNat) / 256) = c := UInt8.toNat_inj.1 (by rw [UInt8.toNat_ofNat']; omega)
  have e4 : UInt8.ofNat (a.toNat * 16777216 + b.toNat * 65536 + c.toNat * 256 + d.toNat) = d := UInt8.toNat_inj.1 (by rw [UInt8.toNat_ofNat']; omega)
  rw [e1, e2, e3, e4]
/-- A head: tos, ttl, protocol, number, three flags, offset, from, to, options. -/
structure Hd where
  t : UInt8
  l : UInt8
  p : UInt8
  i : Nat
  e : Bool
  d : Bool
  m : Bool
  o : Int
  s : Nat
  g : Nat
  x : List UInt8
structure Hd.ok (h : Hd) : Prop where
  i : h.i < 65536
  o : -9223372036854775808 ≤ h.o ∧ h.o ≤ 9223372036854775807
  s : h.s < 4294967296
  g : h.g < 4294967296
def Hd.zero : Hd := ⟨0, 0, 0, 0, false, false, false, 0, 0, 0, []⟩
theorem Hd.zero_ok : Hd.zero.ok := ⟨by decide, ⟨by decide, by decide⟩, by decide, by decide⟩
def optsGo : Nat → List UInt8 → Bool
  | 0, _ => true
  | _ + 1, [] => true
  | f + 1, a :: r => if a = 0 then true else if a = 1 then optsGo f r else match r with
    | [] => false
    | b :: _ => if b.toNat < 2 ∨ r.length + 1 < b.toNat then false else optsGo f ((a :: r).drop b.toNat)
def optsM (l : List UInt8) : Bool := decide (l.length ≤ 40 ∧ l.length % 4 = 0) && optsGo l.length l
def fitsM (h : Hd) (many : Nat) : Bool := decide (h.o * 8 + (many : Int) ≤ 65535 ∧ (h.m = true → many % 8 = 0))
def bitsM (h : Hd) : Nat := h.o.toNat + (if h.e then 32768 else 0) + (if h.d then 16384 else 0) + (if h.m then 8192 else 0)
/-- A head's bytes, of so many bytes in all, with such a sum. -/
def headB (h : Hd) (all sum : Nat) : List UInt8 :=
  [UInt8.ofNat (64 + (20 + h.x.length) / 4), h.t] ++ beM 2 all ++ beM 2 h.i ++ beM 2 (bitsM h) ++ [h.l, h.p] ++ beM 2 sum ++ beM 4 h.s ++ beM 4 h.g ++ h.x
def putHM (h : Hd) (body : List UInt8) : List UInt8 × Int :=
  if h.o < 0 ∨ 8191 < h.o ∨ optsM h.x = false ∨ fitsM h body.length = false then ([], 1) else
  if 65535 < 20 + h.x.length + body.length then ([], 3) else
  (headB h (20 + h.x.length + body.length) (sumM (headB h (20 + h.x.length + body.length) 0)) ++ body, 0)
def hlenM (b : List UInt8) : Nat := 4 * ((b.headD 0).toNat % 16)
def allM (b : List UInt8) : Nat := numM ((b.drop 2).take 2)
def hdM (b : List UInt8) : Hd :=
  ⟨(b.drop 1).headD 0, (b.drop 8).headD 0, (b.drop 9).headD 0, numM ((b.drop 4).take 2), decide (32768 ≤ numM ((b.drop 6).take 2)), decide (numM ((b.drop 6).take 2) / 16384 % 2 = 1), decide (numM ((b.drop 6).take 2) / 8192 % 2 = 1), ((numM ((b.drop 6).take 2) % 8192 : Nat) : Int), numM ((b.drop 12).take 4), numM ((b.drop 16).take 4), (b.take (hlenM b)).drop 20⟩
def readHM (b : List UInt8) (whole : Bool) : Hd × List UInt8 × Int :=
  if b.length < 20 then (Hd.zero, [], 4) else
  if (b.headD 0).toNat / 16 ≠ 4 ∨ hlenM b < 20 then (Hd.zero, [], 5) else
  if b.length < hlenM b then (Hd.zero, [], 4) else
  if allM b < hlenM b then (Hd.zero, [], 5) else
  if sumM (b.take (hlenM b)) ≠ 0 then (Hd.zero, [], 21) else
  if optsM ((b.take (hlenM b)).drop 20) = false then (Hd.zero, [], 5) else
  if allM b ≤ b.length then (if whole = true ∧ fitsM (hdM b) (allM b - hlenM b) = false then (Hd.zero, [], 5) else (hdM b, (b.take (allM b)).drop (hlenM b), 0)) else
  if whole = true then (Hd.zero, [], 4) else (hdM b, b.drop (hlenM b), 0)
theorem headB_len (h : Hd) (all sum : Nat) : (headB h all sum).length = 20 + h.x.length := by
  simp only [headB, List.length_append, beM_len, List.length_cons, List.length_nil]
theorem bits_lt (h : Hd) (h1 : h.o ≤ 8191) : bitsM h < 65536 := by unfold bitsM; split <;> split <;> split <;> omega
theorem twoL (l : List UInt8) (h : l.length = 2) : ∃ a b, l = [a, b] := by
  match l, h with
  | [a, b], _ => exact ⟨a, b, rfl⟩
theorem fourL (l : List UInt8) (h : l.length = 4) : ∃ a b c d, l = [a, b, c, d] := by
  match l, h with
  | [a, b, c, d], _ => exact ⟨a, b, c, d, rfl⟩
/-- A head, byte by byte. -/
theorem headB_bytes (h : Hd) (all sum : Nat) : ∃ a0 a1 i0 i1 b0 b1 s0 s1 x0 x1 x2 x3 y0 y1 y2 y3 : UInt8, beM 2 all = [a0, a1] ∧ beM 2 h.i = [i0, i1] ∧ beM 2 (bitsM h) = [b0, b1] ∧ beM 2 sum = [s0, s1] ∧ beM 4 h.s = [x0, x1, x2, x3] ∧ beM 4 h.g = [y0, y1, y2, y3] ∧
    headB h all sum = UInt8.ofNat (64 + (20 + h.x.length) / 4) :: h.t :: a0 :: a1 :: i0 :: i1 :: b0 :: b1 :: h.l :: h.p :: s0 :: s1 :: x0 :: x1 :: x2 :: x3 :: y0 :: y1 :: y2 :: y3 :: h.x := by
  obtain ⟨a0, a1, ha⟩ := twoL (beM 2 all) (beM_len _ _)
  obtain ⟨i0, i1, hi⟩ := twoL (beM 2 h.i) (beM_len _ _)
  obtain ⟨b0, b1, hb⟩ := twoL (beM 2 (bitsM h)) (beM_len _ _)
  obtain ⟨s0, s1, hs⟩ := twoL (beM 2 sum) (beM_len _ _)
  obtain ⟨x0, x1, x2, x3, hx⟩ := fourL (beM 4 h.s) (beM_len _ _)
  obtain ⟨y0, y1, y2, y3, hy⟩ := fourL (beM 4 h.g) (beM_len _ _)
  refine ⟨a0, a1, i0, i1, b0, b1, s0, s1, x0, x1, x2, x3, y0, y1, y2, y3, ha, hi, hb, hs, hx, hy, ?_⟩
  unfold headB
  rw [ha, hi, hb, hs, hx, hy]
  rfl
theorem tot_pos (a b : UInt8) (r : List UInt8) (h : 0 < a.toNat) : 0 < totM (a :: b :: r) := by rw [totM_cons2]; omega
/-- With its sum, a head's sum is nothing. -/
theorem headB_sum (h : Hd) (all : Nat) (hx40 : h.x.length ≤ 40) : sumM (headB h all (sumM (headB h all 0))) = 0 := by
  obtain ⟨a0, a1, i0, i1, b0, b1, s0, s1, x0, x1, x2, x3, y0, y1, y2, y3, ha, hi, hb, hs, hx, hy, e⟩ := headB_bytes h all (sumM (headB h all 0))
  obtain ⟨a0', a1', i0', i1', b0', b1', s0', s1', x0', x1', x2', x3', y0', y1', y2', y3', ha', hi', hb', hs', hx', hy', e'⟩ := headB_bytes h all 0
  rw [ha'] at ha
  rw [hi'] at hi
  rw [hb'] at hb
  rw [hx'] at hx
  rw [hy'] at hy
  cases ha
  cases hi
  cases hb
  cases hx
  cases hy
  rw [show beM 2 0 = [0, 0] from rfl] at hs'
  cases hs'
  have hq : sumM (headB h all 0) < 65536 := by unfold sumM; omega
  have hn : numM [s0, s1] = sumM (headB h all 0) := by rw [← hs, numB2 _ hq]
  have hn2 : numM [s0, s1] = s0.toNat * 256 + s1.toNat := by simp [numM]
  rw [e]
  have key := sum_laid [UInt8.ofNat (64 + (20 + h.x.length) / 4), h.t, a0, a1, i0, i1, b0, b1, h.l, h.p] (x0 :: x1 :: x2 :: x3 :: y0 :: y1 :: y2 :: y3 :: h.x) s0 s1 (by simp)
  rw [e'] at hn
  simp only [List.cons_append, List.nil_append] at key
  refine key (tot_pos _ _ _ ?_) (by omega)
  rw [UInt8.toNat_ofNat']
  omega
theorem take_eq {α : Type} (l r : List α) (n : Nat) (h : l.length = n) : (l ++ r).take n = l := by subst h; exact List.take_left
theorem drop_eq {α : Type} (l r : List α) (n : Nat) (h : l.length = n) : (l ++ r).drop n = r := by subst h; exact List.drop_left
theorem bits_key (E D M n b : Nat) (hE : E ≤ 1) (hD : D ≤ 1) (hM : M ≤ 1) (hn : n < 8192) (hb : b = n + 32768 * E + 16384 * D + 8192 * M) : (32768 ≤ b ↔ E = 1) ∧ b / 16384 % 2 = D ∧ b / 8192 % 2 = M ∧ b % 8192 = n := by
  subst hb
  refine ⟨?_, ?_, ?_, ?_⟩ <;> omega
def b01 (b : Bool) : Nat := if b then 1 else 0
theorem b01_le (b : Bool) : b01 b ≤ 1 := by cases b <;> decide
theorem b01_one (b : Bool) : (b01 b = 1) ↔ b = true := by cases b <;> simp [b01]
theorem if_b01 (b : Bool) (k : Nat) : (if b = true then k else 0) = k * b01 b := by cases b <;> simp [b01]
theorem dec_b01 (P : Prop) [Decidable P] (b : Bool) (h : P ↔ b01 b = 1) : decide P = b := by
  rw [b01_one] at h
  cases b
  · exact decide_eq_false (fun hp => by have := h.1 hp; cases this)
  · exact decide_eq_true (h.2 rfl)
theorem bits_get (h : Hd) (h0 : 0 ≤ h.o) (h1 : h.o ≤ 8191) : decide (32768 ≤ bitsM h) = h.e ∧ decide (bitsM h / 16384 % 2 = 1) = h.d ∧ decide (bitsM h / 8192 % 2 = 1) = h.m ∧ ((bitsM h % 8192 : Nat) : Int) = h.o := by
  have hb : bitsM h = h.o.toNat + 32768 * b01 h.e + 16384 * b01 h.d + 8192 * b01 h.m := by
    unfold bitsM
    rw [if_b01, if_b01, if_b01]
  obtain ⟨k1, k2, k3, k4⟩ := bits_key _ _ _ _ _ (b01_le h.e) (b01_le h.d) (b01_le h.m) (by omega) hb
  refine ⟨dec_b01 _ _ k1, dec_b01 _ _ (by rw [k2]), dec_b01 _ _ (by rw [k3]), ?_⟩
  rw [k4]
  omega
/-- What a laid head's bytes tell, whatever stands behind. -/
theorem hd_form (h : Hd) (hok : h.ok) (h0 : 0 ≤ h.o) (h1 : h.o ≤ 8191) (hx4 : h.x.length % 4 = 0) (hx40 : h.x.length ≤ 40) (all sum : Nat) (ha : all < 65536) (r : List UInt8) :
    hdM (headB h all sum ++ r) = h ∧ hlenM (headB h all sum ++ r) = 20 + h.x.length ∧ allM (headB h all sum ++ r) = all ∧ ((headB h all sum ++ r).headD 0).toNat / 16 = 4 ∧ (headB h all sum ++ r).take (20 + h.x.length) = headB h all sum := by
  have hlen := headB_len h all sum
  have htk : (headB h all sum ++ r).take (20 + h.x.length) = headB h all sum := by rw [← hlen, List.take_left]
  obtain ⟨a0, a1, i0, i1, b0, b1, s0, s1, x0, x1, x2, x3, y0, y1, y2, y3, ea, ei, eb, es, ex, ey, e⟩ := headB_bytes h all sum
  have na := numB2 all ha
  have ni := numB2 h.i hok.i
  have nb := numB2 (bitsM h) (bits_lt h h1)
  have nx := numB4 h.s hok.s
  have ny := numB4 h.g hok.g
  rw [ea] at na
  rw [ei] at ni
  rw [eb] at nb
  rw [ex] at nx
  rw [ey] at ny
  obtain ⟨g1, g2, g3, g4⟩ := bits_get h h0 h1
  have hz : (UInt8.ofNat (64 + (20 + h.x.length) / 4)).toNat = 64 + (20 + h.x.length) / 4 := by rw [UInt8.toNat_ofNat']; omega
  have hl : hlenM (headB h all sum ++ r) = 20 + h.x.length := by
    rw [e]
    show 4 * ((UInt8.ofNat (64 + (20 + h.x.length) / 4)).toNat % 16) = _
    rw [hz]
    omega
  refine ⟨?_, hl, ?_, ?_, htk⟩
  · have hd : ((headB h all sum ++ r).take (hlenM (headB h all sum ++ r))).drop 20 = h.x := by rw [hl, htk, e]; rfl
    unfold hdM
    rw [hd, e]
    show (⟨h.t, h.l, h.p, numM [i0, i1], decide (32768 ≤ numM [b0, b1]), decide (numM [b0, b1] / 16384 % 2 = 1), decide (numM [b0, b1] / 8192 % 2 = 1), ((numM [b0, b1] % 8192 : Nat) : Int), numM [x0, x1, x2, x3], numM [y0, y1, y2, y3], h.x⟩ : Hd) = h
    rw [ni, nb, nx, ny, g1, g2, g3, g4]
  · rw [e]
    exact na
  · rw [e]
    show (UInt8.ofNat (64 + (20 + h.x.length) / 4)).toNat / 16 = 4
    rw [hz]
    omega
/-- What may be laid. -/
structure Hd.may (h : Hd) (body : List UInt8) : Prop where
  ok : h.ok
  o0 : 0 ≤ h.o
  o1 : h.o ≤ 8191
  x : optsM h.x = true
  f : fitsM h body.length = true
  n : 20 + h.x.length + body.length ≤ 65535
theorem opts_len {l : List UInt8} (h : optsM l = true) : l.length ≤ 40 ∧ l.length % 4 = 0 := by
  unfold optsM at h
  simp only [Bool.and_eq_true, decide_eq_true_eq] at h
  exact h.1
theorem put_may (h : Hd) (body : List UInt8) (hm : h.may body) : putHM h body = (headB h (20 + h.x.length + body.length) (sumM (headB h (20 + h.x.length + body.length) 0)) ++ body, 0) := by
  unfold putHM
  rw [if_neg (by rintro (h1 | h1 | h1 | h1); have := hm.o0; omega; have := hm.o1; omega; rw [hm.x] at h1; cases h1; rw [hm.f] at h1; cases h1), if_neg (by have := hm.n; omega)]
/-- THERE AND BACK: what was laid is read, whatever stands behind. -/
theorem read_put (h : Hd) (body : List UInt8) (hm : h.may body) (whole : Bool) (z : List UInt8) : readHM ((putHM h body).1 ++ z) whole = (h, body, 0) := by
  obtain ⟨hx40, hx4⟩ := opts_len hm.x
  have hn := hm.n
  rw [put_may h body hm]
  simp only
  generalize hsum : sumM (headB h (20 + h.x.length + body.length) 0) = sum
  have hs0 : sumM (headB h (20 + h.x.length + body.length) sum) = 0 := by rw [← hsum]; exact headB_sum h _ hx40
  rw [List.append_assoc]
  obtain ⟨e1, e2, e3, e4, e5⟩ := hd_form h hm.ok hm.o0 hm.o1 hx4 hx40 (20 + h.x.length + body.length) sum (by omega) (body ++ z)
  have hlen : (headB h (20 + h.x.length + body.length) sum ++ (body ++ z)).length = 20 + h.x.length + body.length + z.length := by rw [List.length_append, headB_len, List.length_append]; omega
  have hdx : (headB h (20 + h.x.length + body.length) sum).drop 20 = h.x := by
    obtain ⟨a0, a1, i0, i1, b0, b1, s0, s1, x0, x1, x2, x3, y0, y1, y2, y3, ea, ei, eb, es, ex, ey, e⟩ := headB_bytes h (20 + h.x.length + body.length) sum
    rw [e]
    rfl
  unfold readHM
  rw [if_neg (by rw [hlen]; omega), e2, if_neg (by rw [e4]; omega), if_neg (by rw [hlen]; omega), e3, if_neg (by omega), e5, if_neg (by rw [hs0]; decide), hdx, if_neg (by rw [hm.x]; decide), if_pos (by rw [hlen]; omega), e1]
  rw [if_neg (by rintro ⟨_, h1⟩; rw [show 20 + h.x.length + body.length - (20 + h.x.length) = body.length by omega, hm.f] at h1; cases h1)]
  congr 2
  rw [← List.append_assoc]
  have hl2 : (headB h (20 + h.x.length + body.length) sum ++ body).length = 20 + h.x.length + body.length := by rw [List.length_append, headB_len]
  rw [take_eq _ _ _ hl2, drop_eq _ _ _ (headB_len _ _ _)]
/-- Cut short: Get tells that it is short, Cut the head, where it is there. -/
theorem read_cut (h : Hd) (body : List UInt8) (hm : h.may body) (k : Nat) (hk : k < (putHM h body).1.length) :
    (readHM ((putHM h body).1.take k) true).2.2 = 4 ∧ (20 + h.x.length ≤ k → readHM ((putHM h body).1.take k) false = (h, body.take (k - (20 + h.x.length)), 0)) ∧ (k < 20 + h.x.length → (readHM ((putHM h body).1.take k) false).2.2 = 4) := by
  obtain ⟨hx40, hx4⟩ := opts_len hm.x
  have hn := hm.n
  rw [put_may h body hm] at hk ⊢
  simp only at hk ⊢
  generalize hsum : sumM (headB h (20 + h.x.length + body.length) 0) = sum at *
  have hs0 : sumM (headB h (20 + h.x.length + body.length) sum) = 0 := by rw [← hsum]; exact headB_sum h _ hx40
  have hl2 : (headB h (20 + h.x.length + body.length) sum ++ body).length = 20 + h.x.length + body.length := by rw [List.length_append, headB_len]
  rw [hl2] at hk
  have hlk : ((headB h (20 + h.x.length + body.length) sum ++ body).take k).length = k := by rw [List.length_take, hl2]; omega
  by_cases h20 : k < 20
  · have e : ∀ wh, readHM ((headB h (20 + h.x.length + body.length) sum ++ body).take k) wh = (Hd.zero, [], 4) := fun wh => by unfold readHM; rw [if_pos (by rw [hlk]; exact h20)]
    exact ⟨by rw [e], fun h => by omega, fun _ => by rw [e]⟩
  · -- the first byte is there
    obtain ⟨a0, a1, i0, i1, b0, b1, s0, s1, x0, x1, x2, x3, y0, y1, y2, y3, ea, ei, eb, es, ex, ey, e⟩ := headB_bytes h (20 + h.x.length + body.length) sum
    have hz : (UInt8.ofNat (64 + (20 + h.x.length) / 4)).toNat = 64 + (20 + h.x.length) / 4 := by rw [UInt8.toNat_ofNat']; omega
    have hfirst : ((headB h (20 + h.x.length + body.length) sum ++ body).take k).headD 0 = UInt8.ofNat (64 + (20 + h.x.length) / 4) := by
      obtain ⟨j, rfl⟩ : ∃ j, k = j + 1 := ⟨k - 1, by omega⟩
      rw [e]
      rfl
    have hln : hlenM ((headB h (20 + h.x.length + body.length) sum ++ body).take k) = 20 + h.x.length := by unfold hlenM; rw [hfirst, hz]; omega
    have h4 : (((headB h (20 + h.x.length + body.length) sum ++ body).take k).headD 0).toNat / 16 = 4 := by rw [hfirst, hz]; omega
    by_cases hkn : k < 20 + h.x.length
    · have e : ∀ wh, readHM ((headB h (20 + h.x.length + body.length) sum ++ body).take k) wh = (Hd.zero, [], 4) := fun wh => by
        unfold readHM
        rw [if_neg (by rw [hlk]; exact h20), hln, if_neg (by rw [h4]; omega), if_pos (by rw [hlk]; exact hkn)]
      exact ⟨by rw [e], fun h => by omega, fun _ => by rw [e]⟩
    · have hsplit : (headB h (20 + h.x.length + body.length) sum ++ body).take k = headB h (20 + h.x.length + body.length) sum ++ body.take (k - (20 + h.x.length)) := by
        rw [List.take_append, headB_len, List.take_of_length_le (by rw [headB_len]; omega)]
      obtain ⟨e1, e2, e3, e4, e5⟩ := hd_form h hm.ok hm.o0 hm.o1 hx4 hx40 (20 + h.x.length + body.length) sum (by omega) (body.take (k - (20 + h.x.length)))
      rw [← hsplit] at e1 e2 e3 e4 e5
      have hdx : (headB h (20 + h.x.length + body.length) sum).drop 20 = h.x := by rw [e]; rfl
      have hbody : ∀ wh : Bool, readHM ((headB h (20 + h.x.length + body.length) sum ++ body).take k) wh = if wh = true then (Hd.zero, [], 4) else (h, body.take (k - (20 + h.x.length)), 0) := fun wh => by
        unfold readHM
        rw [if_neg (by rw [hlk]; exact h20), e2, if_neg (by rw [h4]; omega), if_neg (by rw [hlk]; exact hkn), e3, if_neg (by omega), e5, if_neg (by rw [hs0]; decide), hdx, if_neg (by rw [hm.x]; decide), if_neg (by rw [hlk]; omega), e1, hsplit]
        rw [show (headB h (20 + h.x.length + body.length) sum ++ body.take (k - (20 + h.x.length))).drop (20 + h.x.length) = body.take (k - (20 + h.x.length)) from drop_eq _ _ _ (headB_len _ _ _)]
      refine ⟨by rw [hbody, if_pos rfl], fun _ => by rw [hbody, if_neg (by decide)], fun h => by omega⟩
end Go.Proofs.YtflhbidmjlfjkaaDoor
