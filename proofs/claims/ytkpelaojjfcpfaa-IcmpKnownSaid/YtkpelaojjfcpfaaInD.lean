/- Sums of words (RFC 1071) in plain numbers. Nothing of the program is named here. Heads of IPv4 in plain words: read, laid, there and back. Nothing of the program is named here. Heads of IPv4 in plain words: what was read is laid again. Nothing of the program is named here. Options that may be. Nothing of the program is named here. -/
import Derived.Test.YtkpelaojjfcpfaaNum
namespace Go.Proofs.Ytkpelaojjfcpfaa
set_option linter.unusedVariables false

/-- Words of two bytes; a last odd byte is one's highest. -/
def wordsM : List UInt8 → List Nat
  | [] => []
  | [a] => [256 * a.toNat]
  | a :: b :: r => (256 * a.toNat + b.toNat) :: wordsM r
def addM (n w : Nat) : Nat := if 65535 < n + w then n + w - 65535 else n + w
def accM (l : List UInt8) : Nat := (wordsM l).foldl addM 0
def sumM (l : List UInt8) : Nat := 65535 - accM l
def normM (s : Nat) : Nat := if s = 0 then 0 else (s - 1) % 65535 + 1
def totM (l : List UInt8) : Nat := (wordsM l).foldl (· + ·) 0
theorem normM_le (s : Nat) : normM s ≤ 65535 := by unfold normM; split <;> omega
theorem normM_qr (q r : Nat) (h : r < 65535) : normM (65535 * q + r + 1) = r + 1 := by
  unfold normM
  rw [if_neg (by omega), show 65535 * q + r + 1 - 1 = 65535 * q + r by omega, Nat.mul_add_mod, Nat.mod_eq_of_lt h]
theorem addM_norm (s w : Nat) (hw : w ≤ 65535) : addM (normM s) w = normM (s + w) := by
  by_cases hs : s = 0
  · subst hs
    by_cases hw0 : w = 0
    · subst hw0; rfl
    · have := normM_qr 0 (w - 1) (by omega)
      rw [show 65535 * 0 + (w - 1) + 1 = w by omega, show w - 1 + 1 = w by omega] at this
      unfold addM
      rw [show normM 0 = 0 from rfl, Nat.zero_add, if_neg (by omega), this]
  · have h2 := Nat.mod_lt (s - 1) (show 65535 > 0 by decide)
    obtain ⟨q, r, hq, hr⟩ : ∃ q r, s = 65535 * q + r + 1 ∧ r < 65535 := ⟨(s - 1) / 65535, (s - 1) % 65535, by have := Nat.div_add_mod (s - 1) 65535; omega, h2⟩
    subst hq
    rw [normM_qr q r hr]
    unfold addM
    by_cases h : 65535 < r + 1 + w
    · rw [if_pos h]
      have := normM_qr (q + 1) (r + w - 65535) (by omega)
      rw [show 65535 * q + r + 1 + w = 65535 * (q + 1) + (r + w - 65535) + 1 by omega, this]
      omega
    · rw [if_neg h]
      have := normM_qr q (r + w) (by omega)
      rw [show 65535 * q + r + 1 + w = 65535 * q + (r + w) + 1 by omega, this]
      omega
theorem wordsM_le (l : List UInt8) : ∀ w ∈ wordsM l, w ≤ 65535 := by
  match l with
  | [] => intro w hw; cases hw
  | [a] => intro w hw; simp [wordsM] at hw; have := a.toNat_lt; omega
  | a :: b :: r =>
    intro w hw
    simp only [wordsM, List.mem_cons] at hw
    rcases hw with rfl | hw
    · have := a.toNat_lt; have := b.toNat_lt; omega
    · exact wordsM_le r w hw
theorem foldl_norm (ws : List Nat) (h : ∀ w ∈ ws, w ≤ 65535) (s : Nat) : ws.foldl addM (normM s) = normM (ws.foldl (· + ·) s) := by
  induction ws generalizing s with
  | nil => rfl
  | cons w ws ih =>
    simp only [List.foldl_cons]
    rw [addM_norm s w (h w (by simp)), ih (fun x hx => h x (by simp [hx]))]
theorem accM_eq (l : List UInt8) : accM l = normM (totM l) := foldl_norm _ (wordsM_le l) 0
theorem accM_le (l : List UInt8) : accM l ≤ 65535 := by rw [accM_eq]; exact normM_le _
theorem foldl_plus (ws : List Nat) (s : Nat) : ws.foldl (· + ·) s = s + ws.foldl (· + ·) 0 := by
  induction ws generalizing s with
  | nil => simp
  | cons w ws ih => simp only [List.foldl_cons]; rw [ih, ih (0 + w)]; omega
theorem totM_cons2 (a b : UInt8) (r : List UInt8) : totM (a :: b :: r) = 256 * a.toNat + b.toNat + totM r := by
  unfold totM
  simp only [wordsM, List.foldl_cons]
  rw [foldl_plus]
  omega
theorem totM_nil : totM [] = 0 := rfl
/-- Of an even number of bytes ahead. -/
theorem totM_app (l r : List UInt8) (h : l.length % 2 = 0) : totM (l ++ r) = totM l + totM r := by
  match l, h with
  | [], _ => simp [totM_nil]
  | [a], h => simp at h
  | a :: b :: l, h =>
    rw [List.cons_append, List.cons_append, totM_cons2, totM_cons2, totM_app l r (by simp at h; omega)]
    omega
theorem wordsM_app (l r : List UInt8) (h : l.length % 2 = 0) : wordsM (l ++ r) = wordsM l ++ wordsM r := by
  match l, h with
  | [], _ => rfl
  | [a], h => simp at h
  | a :: b :: l, h =>
    rw [List.cons_append, List.cons_append, wordsM, wordsM, wordsM_app l r (by simp at h; omega), List.cons_append]
/-- A sum laid where two noughts stood makes the whole's sum nothing. -/
theorem sum_zero (s : Nat) (hs : 0 < s) : normM (s + (65535 - normM s)) = 65535 := by
  have h2 := Nat.mod_lt (s - 1) (show 65535 > 0 by decide)
  obtain ⟨q, r, hq, hr⟩ : ∃ q r, s = 65535 * q + r + 1 ∧ r < 65535 := ⟨(s - 1) / 65535, (s - 1) % 65535, by have := Nat.div_add_mod (s - 1) 65535; omega, h2⟩
  subst hq
  rw [normM_qr q r hr]
  have := normM_qr q 65534 (by omega)
  rw [show 65535 * q + r + 1 + (65535 - (r + 1)) = 65535 * q + 65534 + 1 by omega, this]
theorem sum_laid (l r : List UInt8) (a b : UInt8) (hl : l.length % 2 = 0) (hpos : 0 < totM (l ++ 0 :: 0 :: r)) (hab : 256 * a.toNat + b.toNat = sumM (l ++ 0 :: 0 :: r)) : sumM (l ++ a :: b :: r) = 0 := by
  have h0 : totM (l ++ 0 :: 0 :: r) = totM l + totM r := by rw [totM_app _ _ hl, totM_cons2]; simp
  have h1 : totM (l ++ a :: b :: r) = totM l + totM r + sumM (l ++ 0 :: 0 :: r) := by rw [totM_app _ _ hl, totM_cons2, hab]; omega
  unfold sumM at h1 ⊢
  rw [accM_eq, h1, accM_eq, h0]
  rw [h0] at hpos
  rw [sum_zero _ hpos]
/-- When a sum is nothing. -/
theorem sum_is_zero (l : List UInt8) : sumM l = 0 ↔ accM l = 65535 := by have := accM_le l; unfold sumM; omega
end Go.Proofs.Ytkpelaojjfcpfaa
namespace Go.Proofs.Ytkpelaojjfcpfaa
set_option linter.unusedVariables false

theorem numB2 (x : Nat) (h : x < 65536) : numM (beM 2 x) = x := by simp [numM, beM, List.range_succ]; omega
theorem numB4 (x : Nat) (h : x < 4294967296) : numM (beM 4 x) = x := by simp [numM, beM, List.range_succ]; omega
theorem beM_two (x : Nat) : beM 2 x = [UInt8.ofNat (x / 256), UInt8.ofNat x] := by simp [beM, List.range_succ]
theorem beM_num2 (a b : UInt8) : beM 2 (numM [a, b]) = [a, b] := by
  have ha := a.toNat_lt
  have hb := b.toNat_lt
  have e : numM [a, b] = a.toNat * 256 + b.toNat := by simp [numM]
  rw [beM_two, e]
  have e1 : UInt8.ofNat ((a.toNat * 256 + b.toNat) / 256) = a := UInt8.toNat_inj.1 (by rw [UInt8.toNat_ofNat']; omega)
  have e2 : UInt8.ofNat (a.toNat * 256 + b.toNat) = b := UInt8.toNat_inj.1 (by rw [UInt8.toNat_ofNat']; omega)
  rw [e1, e2]
theorem beM_num4 (a b c d : UInt8) : beM 4 (numM [a, b, c, d]) = [a, b, c, d] := by
  have ha := a.toNat_lt
  have hb := b.toNat_lt
  have hc := c.toNat_lt
  have hd := d.toNat_lt
  have e : numM [a, b, c, d] = a.toNat * 16777216 + b.toNat * 65536 + c.toNat * 256 + d.toNat := by simp only [numM, List.foldl_cons, List.foldl_nil]; omega
  rw [e]
  have e0 : ∀ x : Nat, beM 4 x = [UInt8.ofNat (x / 16777216), UInt8.ofNat (x / 65536), UInt8.ofNat (x / 256), UInt8.ofNat x] := fun x => by simp [beM, List.range_succ]
  rw [e0]
  have e1 : UInt8.ofNat ((a.toNat * 16777216 + b.toNat * 65536 + c.toNat * 256 + d.toNat) / 16777216) = a := UInt8.toNat_inj.1 (by rw [UInt8.toNat_ofNat']; omega)
  have e2 : UInt8.ofNat ((a.toNat * 16777216 + b.toNat * 65536 + c.toNat * 256 + d.toNat) / 65536) = b := UInt8.toNat_inj.1 (by rw [UInt8.toNat_ofNat']; omega)
  have e3 : UInt8.ofNat ((a.toNat * 16777216 + b.toNat * 65536 + c.toNat * 256 + d.toNat) / 256) = c := UInt8.toNat_inj.1 (by rw [UInt8.toNat_ofNat']; omega)
  have e4 : UInt8.ofNat (a.toNat * 16777216 + b.toNat * 65536 + c.toNat * 256 + d.toNat) = d := UInt8.toNat_inj.1 (by rw [UInt8.toNat_ofNat']; omega)
  rw [e1, e2, e3, e4]
/-- A head: tos, ttl, protocol, number, three flags, offset, from, to, options. -/
structure Hd where
  t : UInt8
  l : UInt8
  p : UInt8
  i : Nat
  e : Bool
  d : Bool
  m : Bool
  o : Int
  s : Nat
  g : Nat
  x : List UInt8
structure Hd.ok (h : Hd) : Prop where
  i : h.i < 65536
  o : -9223372036854775808 ≤ h.o ∧ h.o ≤ 9223372036854775807
  s : h.s < 4294967296
  g : h.g < 4294967296
def Hd.zero : Hd := ⟨0, 0, 0, 0, false, false, false, 0, 0, 0, []⟩
theorem Hd.zero_ok : Hd.zero.ok := ⟨by decide, ⟨by decide, by decide⟩, by decide, by decide⟩
def optsGo : Nat → List UInt8 → Bool
  | 0, _ => true
  | _ + 1, [] => true
  | f + 1, a :: r => if a = 0 then true else if a = 1 then optsGo f r else match r with
    | [] => false
    | b :: _ => if b.toNat < 2 ∨ r.length + 1 < b.toNat then false else optsGo f ((a :: r).drop b.toNat)
def optsM (l : List UInt8) : Bool := decide (l.length ≤ 40 ∧ l.length % 4 = 0) && optsGo l.length l
def fitsM (h : Hd) (many : Nat) : Bool := decide (h.o * 8 + (many : Int) ≤ 65535 ∧ (h.m = true → many % 8 = 0))
def bitsM (h : Hd) : Nat := h.o.toNat + (if h.e then 32768 else 0) + (if h.d then 16384 else 0) + (if h.m then 8192 else 0)
/-- A head's bytes, of so many bytes in all, with such a sum. -/
def headB (h : Hd) (all sum : Nat) : List UInt8 :=
  [UInt8.ofNat (64 + (20 + h.x.length) / 4), h.t] ++ beM 2 all ++ beM 2 h.i ++ beM 2 (bitsM h) ++ [h.l, h.p] ++ beM 2 sum ++ beM 4 h.s ++ beM 4 h.g ++ h.x
def putHM (h : Hd) (body : List UInt8) : List UInt8 × Int :=
  if h.o < 0 ∨ 8191 < h.o ∨ optsM h.x = false ∨ fitsM h body.length = false then ([], 1) else
  if 65535 < 20 + h.x.length + body.length then ([], 3) else
  (headB h (20 + h.x.length + body.length) (sumM (headB h (20 + h.x.length + body.length) 0)) ++ body, 0)
def hlenM (b : List UInt8) : Nat := 4 * ((b.headD 0).toNat % 16)
def allM (b : List UInt8) : Nat := numM ((b.drop 2).take 2)
def hdM (b : List UInt8) : Hd :=
  ⟨(b.drop 1).headD 0, (b.drop 8).headD 0, (b.drop 9).headD 0, numM ((b.drop 4).take 2), decide (32768 ≤ numM ((b.drop 6).take 2)), decide (numM ((b.drop 6).take 2) / 16384 % 2 = 1), decide (numM ((b.drop 6).take 2) / 8192 % 2 = 1), ((numM ((b.drop 6).take 2) % 8192 : Nat) : Int), numM ((b.drop 12).take 4), numM ((b.drop 16).take 4), (b.take (hlenM b)).drop 20⟩
def readHM (b : List UInt8) (whole : Bool) : Hd × List UInt8 × Int :=
  if b.length < 20 then (Hd.zero, [], 4) else
  if (b.headD 0).toNat / 16 ≠ 4 ∨ hlenM b < 20 then (Hd.zero, [], 5) else
  if b.length < hlenM b then (Hd.zero, [], 4) else
  if allM b < hlenM b then (Hd.zero, [], 5) else
  if sumM (b.take (hlenM b)) ≠ 0 then (Hd.zero, [], 21) else
  if optsM ((b.take (hlenM b)).drop 20) = false then (Hd.zero, [], 5) else
  if allM b ≤ b.length then (if whole = true ∧ fitsM (hdM b) (allM b - hlenM b) = false then (Hd.zero, [], 5) else (hdM b, (b.take (allM b)).drop (hlenM b), 0)) else
  if whole = true then (Hd.zero, [], 4) else (hdM b, b.drop (hlenM b), 0)
theorem headB_len (h : Hd) (all sum : Nat) : (headB h all sum).length = 20 + h.x.length := by
  simp only [headB, List.length_append, beM_len, List.length_cons, List.length_nil]
theorem bits_lt (h : Hd) (h1 : h.o ≤ 8191) : bitsM h < 65536 := by unfold bitsM; split <;> split <;> split <;> omega
theorem twoL (l : List UInt8) (h : l.length = 2) : ∃ a b, l = [a, b] := by
  match l, h with
  | [a, b], _ => exact ⟨a, b, rfl⟩
theorem fourL (l : List UInt8) (h : l.length = 4) : ∃ a b c d, l = [a, b, c, d] := by
  match l, h with
  | [a, b, c, d], _ => exact ⟨a, b, c, d, rfl⟩
/-- A head, byte by byte. -/
theorem headB_bytes (h : Hd) (all sum : Nat) : ∃ a0 a1 i0 i1 b0 b1 s0 s1 x0 x1 x2 x3 y0 y1 y2 y3 : UInt8, beM 2 all = [a0, a1] ∧ beM 2 h.i = [i0, i1] ∧ beM 2 (bitsM h) = [b0, b1] ∧ beM 2 sum = [s0, s1] ∧ beM 4 h.s = [x0, x1, x2, x3] ∧ beM 4 h.g = [y0, y1, y2, y3] ∧
    headB h all sum = UInt8.ofNat (64 + (20 + h.x.length) / 4) :: h.t :: a0 :: a1 :: i0 :: i1 :: b0 :: b1 :: h.l :: h.p :: s0 :: s1 :: x0 :: x1 :: x2 :: x3 :: y0 :: y1 :: y2 :: y3 :: h.x := by
  obtain ⟨a0, a1, ha⟩ := twoL (beM 2 all) (beM_len _ _)
  obtain ⟨i0, i1, hi⟩ := twoL (beM 2 h.i) (beM_len _ _)
  obtain ⟨b0, b1, hb⟩ := twoL (beM 2 (bitsM h)) (beM_len _ _)
  obtain ⟨s0, s1, hs⟩ := twoL (beM 2 sum) (beM_len _ _)
  obtain ⟨x0, x1, x2, x3, hx⟩ := fourL (beM 4 h.s) (beM_len _ _)
  obtain ⟨y0, y1, y2, y3, hy⟩ := fourL (beM 4 h.g) (beM_len _ _)
  refine ⟨a0, a1, i0, i1, b0, b1, s0, s1, x0, x1, x2, x3, y0, y1, y2, y3, ha, hi, hb, hs, hx, hy, ?_⟩
  unfold headB
  rw [ha, hi, hb, hs, hx, hy]
  rfl
theorem tot_pos (a b : UInt8) (r : List UInt8) (h : 0 < a.toNat) : 0 < totM (a :: b :: r) := by rw [totM_cons2]; omega
/-- With its sum, a head's sum is nothing. -/
theorem headB_sum (h : Hd) (all : Nat) (hx40 : h.x.length ≤ 40) : sumM (headB h all (sumM (headB h all 0))) = 0 := by
  obtain ⟨a0, a1, i0, i1, b0, b1, s0, s1, x0, x1, x2, x3, y0, y1, y2, y3, ha, hi, hb, hs, hx, hy, e⟩ := headB_bytes h all (sumM (headB h all 0))
  obtain ⟨a0', a1', i0', i1', b0', b1', s0', s1', x0', x1', x2', x3', y0', y1', y2', y3', ha', hi', hb', hs', hx', hy', e'⟩ := headB_bytes h all 0
  rw [ha'] at ha
  rw [hi'] at hi
  rw [hb'] at hb
  rw [hx'] at hx
  rw [hy'] at hy
  cases ha
  cases hi
  cases hb
  cases hx
  cases hy
  rw [show beM 2 0 = [0, 0] from rfl] at hs'
  cases hs'
  have hq : sumM (headB h all 0) < 65536 := by unfold sumM; omega
  have hn : numM [s0, s1] = sumM (headB h all 0) := by rw [← hs, numB2 _ hq]
  have hn2 : numM [s0, s1] = s0.toNat * 256 + s1.toNat := by simp [numM]
  rw [e]
  have key := sum_laid [UInt8.ofNat (64 + (20 + h.x.length) / 4), h.t, a0, a1, i0, i1, b0, b1, h.l, h.p] (x0 :: x1 :: x2 :: x3 :: y0 :: y1 :: y2 :: y3 :: h.x) s0 s1 (by simp)
  rw [e'] at hn
  simp only [List.cons_append, List.nil_append] at key
  refine key (tot_pos _ _ _ ?_) (by omega)
  rw [UInt8.toNat_ofNat']
  omega
theorem take_eq {α : Type} (l r : List α) (n : Nat) (h : l.length = n) : (l ++ r).take n = l := by subst h; exact List.take_left
theorem drop_eq {α : Type} (l r : List α) (n : Nat) (h : l.length = n) : (l ++ r).drop n = r := by subst h; exact List.drop_left
theorem bits_key (E D M n b : Nat) (hE : E ≤ 1) (hD : D ≤ 1) (hM : M ≤ 1) (hn : n < 8192) (hb : b = n + 32768 * E + 16384 * D + 8192 * M) : (32768 ≤ b ↔ E = 1) ∧ b / 16384 % 2 = D ∧ b / 8192 % 2 = M ∧ b % 8192 = n := by
  subst hb
  refine ⟨?_, ?_, ?_, ?_⟩ <;> omega
def b01 (b : Bool) : Nat := if b then 1 else 0
theorem b01_le (b : Bool) : b01 b ≤ 1 := by cases b <;> decide
theorem b01_one (b : Bool) : (b01 b = 1) ↔ b = true := by cases b <;> simp [b01]
theorem if_b01 (b : Bool) (k : Nat) : (if b = true then k else 0) = k * b01 b := by cases b <;> simp [b01]
theorem dec_b01 (P : Prop) [Decidable P] (b : Bool) (h : P ↔ b01 b = 1) : decide P = b := by
  rw [b01_one] at h
  cases b
  · exact decide_eq_false (fun hp => by have := h.1 hp; cases this)
  · exact decide_eq_true (h.2 rfl)
theorem bits_get (h : Hd) (h0 : 0 ≤ h.o) (h1 : h.o ≤ 8191) : decide (32768 ≤ bitsM h) = h.e ∧ decide (bitsM h / 16384 % 2 = 1) = h.d ∧ decide (bitsM h / 8192 % 2 = 1) = h.m ∧ ((bitsM h % 8192 : Nat) : Int) = h.o := by
  have hb : bitsM h = h.o.toNat + 32768 * b01 h.e + 16384 * b01 h.d + 8192 * b01 h.m := by
    unfold bitsM
    rw [if_b01, if_b01, if_b01]
  obtain ⟨k1, k2, k3, k4⟩ := bits_key _ _ _ _ _ (b01_le h.e) (b01_le h.d) (b01_le h.m) (by omega) hb
  refine ⟨dec_b01 _ _ k1, dec_b01 _ _ (by rw [k2]), dec_b01 _ _ (by rw [k3]), ?_⟩
  rw [k4]
  omega
/-- What a laid head's bytes tell, whatever stands behind. -/
theorem hd_form (h : Hd) (hok : h.ok) (h0 : 0 ≤ h.o) (h1 : h.o ≤ 8191) (hx4 : h.x.length % 4 = 0) (hx40 : h.x.length ≤ 40) (all sum : Nat) (ha : all < 65536) (r : List UInt8) :
    hdM (headB h all sum ++ r) = h ∧ hlenM (headB h all sum ++ r) = 20 + h.x.length ∧ allM (headB h all sum ++ r) = all ∧ ((headB h all sum ++ r).headD 0).toNat / 16 = 4 ∧ (headB h all sum ++ r).take (20 + h.x.length) = headB h all sum := by
  have hlen := headB_len h all sum
  have htk : (headB h all sum ++ r).take (20 + h.x.length) = headB h all sum := by rw [← hlen, List.take_left]
  obtain ⟨a0, a1, i0, i1, b0, b1, s0, s1, x0, x1, x2, x3, y0, y1, y2, y3, ea, ei, eb, es, ex, ey, e⟩ := headB_bytes h all sum
  have na := numB2 all ha
  have ni := numB2 h.i hok.i
  have nb := numB2 (bitsM h) (bits_lt h h1)
  have nx := numB4 h.s hok.s
  have ny := numB4 h.g hok.g
  rw [ea] at na
  rw [ei] at ni
  rw [eb] at nb
  rw [ex] at nx
  rw [ey] at ny
  obtain ⟨g1, g2, g3, g4⟩ := bits_get h h0 h1
  have hz : (UInt8.ofNat (64 + (20 + h.x.length) / 4)).toNat = 64 + (20 + h.x.length) / 4 := by rw [UInt8.toNat_ofNat']; omega
  have hl : hlenM (headB h all sum ++ r) = 20 + h.x.length := by
    rw [e]
    show 4 * ((UInt8.ofNat (64 + (20 + h.x.length) / 4)).toNat % 16) = _
    rw [hz]
    omega
  refine ⟨?_, hl, ?_, ?_, htk⟩
  · have hd : ((headB h all sum ++ r).take (hlenM (headB h all sum ++ r))).drop 20 = h.x := by rw [hl, htk, e]; rfl
    unfold hdM
    rw [hd, e]
    show (⟨h.t, h.l, h.p, numM [i0, i1], decide (32768 ≤ numM [b0, b1]), decide (numM [b0, b1] / 16384 % 2 = 1), decide (numM [b0, b1] / 8192 % 2 = 1), ((numM [b0, b1] % 8192 : Nat) : Int), numM [x0, x1, x2, x3], numM [y0, y1, y2, y3], h.x⟩ : Hd) = h
    rw [ni, nb, nx, ny, g1, g2, g3, g4]
  · rw [e]
    exact na
  · rw [e]
    show (UInt8.ofNat (64 + (20 + h.x.length) / 4)).toNat / 16 = 4
    rw [hz]
    omega
/-- What may be laid. -/
structure Hd.may (h : Hd) (body : List UInt8) : Prop where
  ok : h.ok
  o0 : 0 ≤ h.o
  o1 : h.o ≤ 8191
  x : optsM h.x = true
  f : fitsM h body.length = true
  n : 20 + h.x.length + body.length ≤ 65535
theorem opts_len {l : List UInt8} (h : optsM l = true) : l.length ≤ 40 ∧ l.length % 4 = 0 := by
  unfold optsM at h
  simp only [Bool.and_eq_true, decide_eq_true_eq] at h
  exact h.1
theorem put_may (h : Hd) (body : List UInt8) (hm : h.may body) : putHM h body = (headB h (20 + h.x.length + body.length) (sumM (headB h (20 + h.x.length + body.length) 0)) ++ body, 0) := by
  unfold putHM
  rw [if_neg (by rintro (h1 | h1 | h1 | h1); have := hm.o0; omega; have := hm.o1; omega; rw [hm.x] at h1; cases h1; rw [hm.f] at h1; cases h1), if_neg (by have := hm.n; omega)]
/-- THERE AND BACK: what was laid is read, whatever stands behind. -/
theorem read_put (h : Hd) (body : List UInt8) (hm : h.may body) (whole : Bool) (z : List UInt8) : readHM ((putHM h body).1 ++ z) whole = (h, body, 0) := by
  obtain ⟨hx40, hx4⟩ := opts_len hm.x
  have hn := hm.n
  rw [put_may h body hm]
  simp only
  generalize hsum : sumM (headB h (20 + h.x.length + body.length) 0) = sum
  have hs0 : sumM (headB h (20 + h.x.length + body.length) sum) = 0 := by rw [← hsum]; exact headB_sum h _ hx40
  rw [List.append_assoc]
  obtain ⟨e1, e2, e3, e4, e5⟩ := hd_form h hm.ok hm.o0 hm.o1 hx4 hx40 (20 + h.x.length + body.length) sum (by omega) (body ++ z)
  have hlen : (headB h (20 + h.x.length + body.length) sum ++ (body ++ z)).length = 20 + h.x.length + body.length + z.length := by rw [List.length_append, headB_len, List.length_append]; omega
  have hdx : (headB h (20 + h.x.length + body.length) sum).drop 20 = h.x := by
    obtain ⟨a0, a1, i0, i1, b0, b1, s0, s1, x0, x1, x2, x3, y0, y1, y2, y3, ea, ei, eb, es, ex, ey, e⟩ := headB_bytes h (20 + h.x.length + body.length) sum
    rw [e]
    rfl
  unfold readHM
  rw [if_neg (by rw [hlen]; omega), e2, if_neg (by rw [e4]; omega), if_neg (by rw [hlen]; omega), e3, if_neg (by omega), e5, if_neg (by rw [hs0]; decide), hdx, if_neg (by rw [hm.x]; decide), if_pos (by rw [hlen]; omega), e1]
  rw [if_neg (by rintro ⟨_, h1⟩; rw [show 20 + h.x.length + body.length - (20 + h.x.length) = body.length by omega, hm.f] at h1; cases h1)]
  congr 2
  rw [← List.append_assoc]
  have hl2 : (headB h (20 + h.x.length + body.length) sum ++ body).length = 20 + h.x.length + body.length := by rw [List.length_append, headB_len]
  rw [take_eq _ _ _ hl2, drop_eq _ _ _ (headB_len _ _ _)]
/-- Cut short: Get tells that it is short, Cut the head, where it is there. -/
theorem read_cut (h : Hd) (body : List UInt8) (hm : h.may body) (k : Nat) (hk : k < (putHM h body).1.length) :
    (readHM ((putHM h body).1.take k) true).2.2 = 4 ∧ (20 + h.x.length ≤ k → readHM ((putHM h body).1.take k) false = (h, body.take (k - (20 + h.x.length)), 0)) ∧ (k < 20 + h.x.length → (readHM ((putHM h body).1.take k) false).2.2 = 4) := by
  obtain ⟨hx40, hx4⟩ := opts_len hm.x
  have hn := hm.n
  rw [put_may h body hm] at hk ⊢
  simp only at hk ⊢
  generalize hsum : sumM (headB h (20 + h.x.length + body.length) 0) = sum at *
  have hs0 : sumM (headB h (20 + h.x.length + body.length) sum) = 0 := by rw [← hsum]; exact headB_sum h _ hx40
  have hl2 : (headB h (20 + h.x.length + body.length) sum ++ body).length = 20 + h.x.length + body.length := by rw [List.length_append, headB_len]
  rw [hl2] at hk
  have hlk : ((headB h (20 + h.x.length + body.length) sum ++ body).take k).length = k := by rw [List.length_take, hl2]; omega
  by_cases h20 : k < 20
  · have e : ∀ wh, readHM ((headB h (20 + h.x.length + body.length) sum ++ body).take k) wh = (Hd.zero, [], 4) := fun wh => by unfold readHM; rw [if_pos (by rw [hlk]; exact h20)]
    exact ⟨by rw [e], fun h => by omega, fun _ => by rw [e]⟩
  · -- the first byte is there
    obtain ⟨a0, a1, i0, i1, b0, b1, s0, s1, x0, x1, x2, x3, y0, y1, y2, y3, ea, ei, eb, es, ex, ey, e⟩ := headB_bytes h (20 + h.x.length + body.length) sum
    have hz : (UInt8.ofNat (64 + (20 + h.x.length) / 4)).toNat = 64 + (20 + h.x.length) / 4 := by rw [UInt8.toNat_ofNat']; omega
    have hfirst : ((headB h (20 + h.x.length + body.length) sum ++ body).take k).headD 0 = UInt8.ofNat (64 + (20 + h.x.length) / 4) := by
      obtain ⟨j, rfl⟩ : ∃ j, k = j + 1 := ⟨k - 1, by omega⟩
      rw [e]
      rfl
    have hln : hlenM ((headB h (20 + h.x.length + body.length) sum ++ body).take k) = 20 + h.x.length := by unfold hlenM; rw [hfirst, hz]; omega
    have h4 : (((headB h (20 + h.x.length + body.length) sum ++ body).take k).headD 0).toNat / 16 = 4 := by rw [hfirst, hz]; omega
    by_cases hkn : k < 20 + h.x.length
    · have e : ∀ wh, readHM ((headB h (20 + h.x.length + body.length) sum ++ body).take k) wh = (Hd.zero, [], 4) := fun wh => by
        unfold readHM
        rw [if_neg (by rw [hlk]; exact h20), hln, if_neg (by rw [h4]; omega), if_pos (by rw [hlk]; exact hkn)]
      exact ⟨by rw [e], fun h => by omega, fun _ => by rw [e]⟩
    · have hsplit : (headB h (20 + h.x.length + body.length) sum ++ body).take k = headB h (20 + h.x.length + body.length) sum ++ body.take (k - (20 + h.x.length)) := by
        rw [List.take_append, headB_len, List.take_of_length_le (by rw [headB_len]; omega)]
      obtain ⟨e1, e2, e3, e4, e5⟩ := hd_form h hm.ok hm.o0 hm.o1 hx4 hx40 (20 + h.x.length + body.length) sum (by omega) (body.take (k - (20 + h.x.length)))
      rw [← hsplit] at e1 e2 e3 e4 e5
      have hdx : (headB h (20 + h.x.length + body.length) sum).drop 20 = h.x := by rw [e]; rfl
      have hbody : ∀ wh : Bool, readHM ((headB h (20 + h.x.length + body.length) sum ++ body).take k) wh = if wh = true then (Hd.zero, [], 4) else (h, body.take (k - (20 + h.x.length)), 0) := fun wh => by
        unfold readHM
        rw [if_neg (by rw [hlk]; exact h20), e2, if_neg (by rw [h4]; omega), if_neg (by rw [hlk]; exact hkn), e3, if_neg (by omega), e5, if_neg (by rw [hs0]; decide), hdx, if_neg (by rw [hm.x]; decide), if_neg (by rw [hlk]; omega), e1, hsplit]
        rw [show (headB h (20 + h.x.length + body.length) sum ++ body.take (k - (20 + h.x.length))).drop (20 + h.x.length) = body.take (k - (20 + h.x.length)) from drop_eq _ _ _ (headB_len _ _ _)]
      refine ⟨by rw [hbody, if_pos rfl], fun _ => by rw [hbody, if_neg (by decide)], fun h => by omega⟩
end Go.Proofs.Ytkpelaojjfcpfaa
namespace Go.Proofs.Ytkpelaojjfcpfaa
set_option linter.unusedVariables false

theorem norm_mod (s : Nat) : normM s % 65535 = s % 65535 ∧ (normM s = 0 ↔ s = 0) := by
  unfold normM
  split
  · rename_i h; subst h; simp
  · rename_i h
    constructor
    · have h2 := Nat.mod_lt (s - 1) (show 65535 > 0 by decide)
      have h3 := Nat.div_add_mod (s - 1) 65535
      generalize (s - 1) / 65535 = q at *
      generalize (s - 1) % 65535 = r at *
      obtain rfl : s = 65535 * q + r + 1 := by omega
      omega
    · constructor <;> intro h2 <;> omega
/-- The sum that was there, and the one that is laid. -/
theorem sum_again (T0 w : Nat) (h0 : 0 < T0) (hw : w ≤ 65535) (hz : normM (T0 + w) = 65535) : 65535 - normM T0 = w ∨ (65535 - normM T0 = 0 ∧ w = 65535) := by
  have a1 := (norm_mod (T0 + w)).1
  rw [hz] at a1
  have a2 := (norm_mod T0).1
  have a3 : normM T0 ≠ 0 := fun h => by have := (norm_mod T0).2.1 h; omega
  have a4 := normM_le T0
  generalize normM T0 = N at *
  omega
theorem ten_of (b : List UInt8) (h : 10 ≤ b.length) : ∃ z t a0 a1 i0 i1 b0 b1 l p : UInt8, ∃ r, b = z :: t :: a0 :: a1 :: i0 :: i1 :: b0 :: b1 :: l :: p :: r := by
  match b, h with
  | z :: t :: a0 :: a1 :: i0 :: i1 :: b0 :: b1 :: l :: p :: r, _ => exact ⟨z, t, a0, a1, i0, i1, b0, b1, l, p, r, rfl⟩
/-- The first twenty bytes of what is long enough. -/
theorem twenty_of (b : List UInt8) (h : 20 ≤ b.length) : ∃ z t a0 a1 i0 i1 b0 b1 l p s0 s1 x0 x1 x2 x3 y0 y1 y2 y3 : UInt8, ∃ r, b = z :: t :: a0 :: a1 :: i0 :: i1 :: b0 :: b1 :: l :: p :: s0 :: s1 :: x0 :: x1 :: x2 :: x3 :: y0 :: y1 :: y2 :: y3 :: r := by
  obtain ⟨z, t, a0, a1, i0, i1, b0, b1, l, p, r, rfl⟩ := ten_of b (by omega)
  obtain ⟨s0, s1, x0, x1, x2, x3, y0, y1, y2, y3, r, rfl⟩ := ten_of r (by simp at h; omega)
  exact ⟨z, t, a0, a1, i0, i1, b0, b1, l, p, s0, s1, x0, x1, x2, x3, y0, y1, y2, y3, r, rfl⟩
theorem read_ok {b : List UInt8} {h : Hd} {body : List UInt8} (hr : readHM b true = (h, body, 0)) : 20 ≤ b.length ∧ (b.headD 0).toNat / 16 = 4 ∧ 20 ≤ hlenM b ∧ hlenM b ≤ b.length ∧ hlenM b ≤ allM b ∧ sumM (b.take (hlenM b)) = 0 ∧ optsM ((b.take (hlenM b)).drop 20) = true ∧ allM b ≤ b.length ∧
    fitsM (hdM b) (allM b - hlenM b) = true ∧ h = hdM b ∧ body = (b.take (allM b)).drop (hlenM b) := by
  unfold readHM at hr
  split at hr
  · simp at hr
  · rename_i c1
    split at hr
    · simp at hr
    · rename_i c2
      split at hr
      · simp at hr
      · rename_i c3
        split at hr
        · simp at hr
        · rename_i c4
          split at hr
          · simp at hr
          · rename_i c5
            split at hr
            · simp at hr
            · rename_i c6
              split at hr
              · rename_i c7
                split at hr
                · simp at hr
                · rename_i c8
                  simp only [Prod.mk.injEq, and_true] at hr
                  refine ⟨by omega, by omega, by omega, by omega, by omega, by omega, by simpa using c6, c7, ?_, hr.1.symm, hr.2.symm⟩
                  cases hf : fitsM (hdM b) (allM b - hlenM b) with
                  | true => rfl
                  | false => exact absurd ⟨rfl, hf⟩ c8
              · simp at hr
theorem num_two' (a b : UInt8) : numM [a, b] = a.toNat * 256 + b.toNat := by simp [numM]
theorem num_lt2 (a b : UInt8) : numM [a, b] < 65536 := by rw [num_two']; have := a.toNat_lt; have := b.toNat_lt; omega
theorem num_lt4 (a b c d : UInt8) : numM [a, b, c, d] < 4294967296 := by have := numM_lt [a, b, c, d]; simpa using this
/-- LAID AGAIN: the bytes that were read, but for the sum's two. -/
theorem put_read (b : List UInt8) (h : Hd) (body : List UInt8) (hr : readHM b true = (h, body, 0)) :
    ∃ c, putHM h body = (c, 0) ∧ c.length = allM b ∧ allM b ≤ b.length ∧ 20 ≤ c.length ∧ c.take 10 = b.take 10 ∧ c.drop 12 = (b.take (allM b)).drop 12 ∧
      ((c.drop 10).take 2 = (b.drop 10).take 2 ∨ ((c.drop 10).take 2 = [0, 0] ∧ (b.drop 10).take 2 = [255, 255])) := by
  obtain ⟨c1, c2, c3, c4, c5, c6, c7, c8, c9, rfl, rfl⟩ := read_ok hr
  obtain ⟨hx40, hx4⟩ := opts_len c7
  clear hr
  have hn60 : hlenM b = 4 * ((b.headD 0).toNat % 16) := rfl
  have hall : allM b < 65536 := by
    unfold allM
    have := numM_lt ((b.drop 2).take 2)
    have h2 : ((b.drop 2).take 2).length ≤ 2 := by simp; omega
    exact Nat.lt_of_lt_of_le this (Nat.pow_le_pow_right (by decide) h2)
  have hxl : (hdM b).x.length = hlenM b - 20 := by
    show ((b.take (hlenM b)).drop 20).length = _
    rw [List.length_drop, List.length_take]
    omega
  have hbl : ((b.take (allM b)).drop (hlenM b)).length = allM b - hlenM b := by rw [List.length_drop, List.length_take]; omega
  have hok : (hdM b).ok ∧ 0 ≤ (hdM b).o ∧ (hdM b).o ≤ 8191 := by
    obtain ⟨z, t, a0, a1, i0, i1, b0, b1, l, p, s0, s1, x0, x1, x2, x3, y0, y1, y2, y3, r, rfl⟩ := twenty_of b c1
    have ho : (hdM (z :: t :: a0 :: a1 :: i0 :: i1 :: b0 :: b1 :: l :: p :: s0 :: s1 :: x0 :: x1 :: x2 :: x3 :: y0 :: y1 :: y2 :: y3 :: r)).o = ((numM [b0, b1] % 8192 : Nat) : Int) := rfl
    have hlt := Nat.mod_lt (numM [b0, b1]) (show 8192 > 0 by decide)
    refine ⟨⟨num_lt2 i0 i1, ?_, num_lt4 x0 x1 x2 x3, num_lt4 y0 y1 y2 y3⟩, ?_, ?_⟩ <;> rw [ho] <;> omega
  have hmay : (hdM b).may ((b.take (allM b)).drop (hlenM b)) := ⟨hok.1, hok.2.1, hok.2.2, c7, by rw [hbl]; exact c9, by rw [hxl, hbl]; omega⟩
  have htot : 20 + (hdM b).x.length + ((b.take (allM b)).drop (hlenM b)).length = allM b := by rw [hxl, hbl]; omega
  have hput := put_may _ _ hmay
  rw [htot] at hput
  refine ⟨_, hput, by rw [List.length_append, headB_len, hxl, hbl]; omega, c8, by rw [List.length_append, headB_len]; omega, ?_⟩
  -- the head, byte by byte
  have hsumw : ∀ sum, sum < 65536 → headB (hdM b) (allM b) sum = b.take 10 ++ beM 2 sum ++ (b.take (hlenM b)).drop 12 := by
    intro sum hsum
    obtain ⟨z, t, a0, a1, i0, i1, b0, b1, l, p, s0, s1, x0, x1, x2, x3, y0, y1, y2, y3, r, rfl⟩ := twenty_of b c1
    have hz : UInt8.ofNat (64 + (20 + (hdM (z :: t :: a0 :: a1 :: i0 :: i1 :: b0 :: b1 :: l :: p :: s0 :: s1 :: x0 :: x1 :: x2 :: x3 :: y0 :: y1 :: y2 :: y3 :: r)).x.length) / 4) = z := by
      rw [hxl]
      apply UInt8.toNat_inj.1
      rw [UInt8.toNat_ofNat']
      have e1 : (z :: t :: a0 :: a1 :: i0 :: i1 :: b0 :: b1 :: l :: p :: s0 :: s1 :: x0 :: x1 :: x2 :: x3 :: y0 :: y1 :: y2 :: y3 :: r : List UInt8).headD 0 = z := rfl
      rw [e1] at c2 hn60
      rw [hn60] at c3 ⊢
      have := z.toNat_lt
      omega
    have hbits : bitsM (hdM (z :: t :: a0 :: a1 :: i0 :: i1 :: b0 :: b1 :: l :: p :: s0 :: s1 :: x0 :: x1 :: x2 :: x3 :: y0 :: y1 :: y2 :: y3 :: r)) = numM [b0, b1] := by
      show ((numM [b0, b1] % 8192 : Nat) : Int).toNat + (if decide (32768 ≤ numM [b0, b1]) = true then 32768 else 0) + (if decide (numM [b0, b1] / 16384 % 2 = 1) = true then 16384 else 0) + (if decide (numM [b0, b1] / 8192 % 2 = 1) = true then 8192 else 0) = _
      have hlt := num_lt2 b0 b1
      generalize numM [b0, b1] = B at *
      rw [Int.toNat_natCast]
      simp only [decide_eq_true_eq]
      split <;> split <;> split <;> omega
    have e2 : beM 2 (allM (z :: t :: a0 :: a1 :: i0 :: i1 :: b0 :: b1 :: l :: p :: s0 :: s1 :: x0 :: x1 :: x2 :: x3 :: y0 :: y1 :: y2 :: y3 :: r)) = [a0, a1] := beM_num2 a0 a1
    have htd : ((z :: t :: a0 :: a1 :: i0 :: i1 :: b0 :: b1 :: l :: p :: s0 :: s1 :: x0 :: x1 :: x2 :: x3 :: y0 :: y1 :: y2 :: y3 :: r).take (hlenM (z :: t :: a0 :: a1 :: i0 :: i1 :: b0 :: b1 :: l :: p :: s0 :: s1 :: x0 :: x1 :: x2 :: x3 :: y0 :: y1 :: y2 :: y3 :: r))).drop 12 = [x0, x1, x2, x3, y0, y1, y2, y3] ++ (hdM (z :: t :: a0 :: a1 :: i0 :: i1 :: b0 :: b1 :: l :: p :: s0 :: s1 :: x0 :: x1 :: x2 :: x3 :: y0 :: y1 :: y2 :: y3 :: r)).x := by
      show _ = [x0, x1, x2, x3, y0, y1, y2, y3] ++ ((z :: t :: a0 :: a1 :: i0 :: i1 :: b0 :: b1 :: l :: p :: s0 :: s1 :: x0 :: x1 :: x2 :: x3 :: y0 :: y1 :: y2 :: y3 :: r).take (hlenM (z :: t :: a0 :: a1 :: i0 :: i1 :: b0 :: b1 :: l :: p :: s0 :: s1 :: x0 :: x1 :: x2 :: x3 :: y0 :: y1 :: y2 :: y3 :: r))).drop 20
      obtain ⟨m, hm⟩ : ∃ m, hlenM (z :: t :: a0 :: a1 :: i0 :: i1 :: b0 :: b1 :: l :: p :: s0 :: s1 :: x0 :: x1 :: x2 :: x3 :: y0 :: y1 :: y2 :: y3 :: r) = 20 + m := ⟨_, (Nat.add_sub_cancel' c3).symm⟩
      rw [hm, Nat.add_comm 20 m]
      rfl
    rw [htd]
    unfold headB
    rw [hz, e2, hbits]
    show [z, t] ++ [a0, a1] ++ beM 2 (numM [i0, i1]) ++ beM 2 (numM [b0, b1]) ++ [l, p] ++ beM 2 sum ++ beM 4 (numM [x0, x1, x2, x3]) ++ beM 4 (numM [y0, y1, y2, y3]) ++ _ = _
    rw [beM_num2, beM_num2, beM_num4, beM_num4]
    simp only [List.append_assoc]
    rfl
  have hq : sumM (headB (hdM b) (allM b) 0) < 65536 := by unfold sumM; omega
  have hw := hsumw _ hq
  have hw0 := hsumw 0 (by decide)
  have l10 : (b.take 10).length = 10 := by rw [List.length_take]; omega
  have hd12 : (b.take (hlenM b)).drop 12 ++ (b.take (allM b)).drop (hlenM b) = (b.take (allM b)).drop 12 := by
    have e1 : b.take (allM b) = b.take (hlenM b) ++ (b.take (allM b)).drop (hlenM b) := by
      have := List.take_append_drop (hlenM b) (b.take (allM b))
      rw [List.take_take, Nat.min_eq_left c5] at this
      exact this.symm
    conv => rhs; rw [e1]
    rw [List.drop_append_of_le_length (by rw [List.length_take]; omega)]
  obtain ⟨s0, s1, hs⟩ := twoL (beM 2 (sumM (headB (hdM b) (allM b) 0))) (beM_len _ _)
  rw [hw, hs]
  refine ⟨?_, ?_, ?_⟩
  · rw [List.append_assoc, List.append_assoc, take_eq _ _ _ l10]
  · rw [List.append_assoc, drop_eq _ _ 12 (by rw [List.length_append, l10]; rfl), hd12]
  · rw [List.append_assoc, List.append_assoc, drop_eq _ _ 10 l10]
    show [s0, s1] = _ ∨ ([s0, s1] = [0, 0] ∧ _)
    obtain ⟨z, t, a0, a1, i0, i1, b0, b1, l, p, w0, w1, x0, x1, x2, x3, y0, y1, y2, y3, r, hb⟩ := twenty_of b c1
    have hbd : (b.drop 10).take 2 = [w0, w1] := by rw [hb]; rfl
    rw [hbd]
    have hb12 : b.take (hlenM b) = b.take 10 ++ [w0, w1] ++ (b.take (hlenM b)).drop 12 := by
      have e1 := List.take_append_drop 12 (b.take (hlenM b))
      rw [List.take_take, Nat.min_eq_left (by omega)] at e1
      rw [← e1]
      congr 1
      · rw [hb]; rfl
      · rw [e1]
    have ev : (b.take 10).length % 2 = 0 := by rw [l10]
    have t1 : totM (b.take (hlenM b)) = totM (b.take 10) + (256 * w0.toNat + w1.toNat) + totM ((b.take (hlenM b)).drop 12) := by
      rw [congrArg totM hb12, List.append_assoc, totM_app _ _ ev, List.cons_append, List.cons_append, List.nil_append, totM_cons2]
      omega
    have t0 : totM (headB (hdM b) (allM b) 0) = totM (b.take 10) + totM ((b.take (hlenM b)).drop 12) := by
      rw [hw0, show beM 2 0 = [0, 0] from rfl, List.append_assoc, totM_app _ _ ev, List.cons_append, List.cons_append, List.nil_append, totM_cons2]
      simp
    have hz0 : 0 < z.toNat := by
      have : b.headD 0 = z := by rw [hb]; rfl
      rw [this] at c2
      omega
    have hp : 0 < totM (b.take 10) := by
      rw [hb]
      exact tot_pos z t _ hz0
    have hz1 := (sum_is_zero _).1 c6
    rw [accM_eq, t1] at hz1
    have hwl := w0.toNat_lt
    have hwl1 := w1.toNat_lt
    have key := sum_again (totM (b.take 10) + totM ((b.take (hlenM b)).drop 12)) (256 * w0.toNat + w1.toNat) (by omega) (by omega) (by rw [← hz1]; congr 1; omega)
    have hsv : sumM (headB (hdM b) (allM b) 0) = 65535 - normM (totM (b.take 10) + totM ((b.take (hlenM b)).drop 12)) := by unfold sumM; rw [accM_eq, t0]
    rw [← hsv] at key
    have hn := numB2 _ hq
    rw [hs, num_two'] at hn
    have g0 := s0.toNat_lt
    have g1 := s1.toNat_lt
    rcases key with key | ⟨key, key2⟩
    · left
      have u0 : s0.toNat = w0.toNat := by omega
      have u1 : s1.toNat = w1.toNat := by omega
      rw [UInt8.toNat_inj.1 u0, UInt8.toNat_inj.1 u1]
    · right
      have u0 : s0 = 0 := UInt8.toNat_inj.1 (by show s0.toNat = 0; omega)
      have u1 : s1 = 0 := UInt8.toNat_inj.1 (by show s1.toNat = 0; omega)
      have v0 : w0 = 255 := UInt8.toNat_inj.1 (by show w0.toNat = 255; omega)
      have v1 : w1 = 255 := UInt8.toNat_inj.1 (by show w1.toNat = 255; omega)
      rw [u0, u1, v0, v1]
      exact ⟨rfl, rfl⟩
end Go.Proofs.Ytkpelaojjfcpfaa
namespace Go.Proofs.Ytkpelaojjfcpfaa
set_option linter.unusedVariables false

theorem go_ones (f n : Nat) : optsGo f (List.replicate n 1) = true := by
  induction f generalizing n with
  | zero => rfl
  | succ f ih =>
    cases n with
    | zero => rfl
    | succ n =>
      rw [List.replicate_succ]
      unfold optsGo
      rw [if_neg (by decide), if_pos rfl]
      exact ih n
/-- Options of ones, the first of them another one, of four bytes. -/
def madeO (n : Nat) (a : UInt8) : List UInt8 := if n < 4 then List.replicate n 1 else a :: 4 :: List.replicate (n - 2) 1
theorem made_len (n : Nat) (a : UInt8) : (madeO n a).length = n := by
  unfold madeO
  split
  · simp
  · simp; omega
theorem made_opts (n : Nat) (a : UInt8) (h40 : n ≤ 40) (h4 : n % 4 = 0) (ha : 2 ≤ a.toNat) : optsM (madeO n a) = true := by
  unfold optsM
  rw [made_len, decide_eq_true ⟨h40, h4⟩, Bool.true_and]
  unfold madeO
  split
  · exact go_ones _ _
  · rename_i hn
    obtain ⟨f, rfl⟩ : ∃ f, n = f + 1 := ⟨n - 1, by omega⟩
    have a0 : a ≠ 0 := fun h => by rw [h] at ha; revert ha; decide
    have a1 : a ≠ 1 := fun h => by rw [h] at ha; revert ha; decide
    unfold optsGo
    rw [if_neg a0, if_neg a1]
    simp only
    rw [if_neg (by rw [show (4 : UInt8).toNat = 4 from rfl]; simp; omega)]
    have e : (a :: 4 :: List.replicate (f + 1 - 2) (1 : UInt8)).drop (4 : UInt8).toNat = List.replicate (f + 1 - 4) 1 := by
      rw [show (4 : UInt8).toNat = 2 + 2 from rfl, ← List.drop_drop]
      show (List.replicate (f + 1 - 2) (1 : UInt8)).drop 2 = _
      rw [List.drop_replicate]
      rfl
    rw [e]
    exact go_ones _ _
theorem or_two (x : UInt8) : 2 ≤ (x ||| 2).toNat := by
  rw [UInt8.toNat_or]
  exact Nat.right_le_or
end Go.Proofs.Ytkpelaojjfcpfaa
