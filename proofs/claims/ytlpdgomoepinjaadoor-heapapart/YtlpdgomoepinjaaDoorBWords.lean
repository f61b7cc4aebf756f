/-
  The three counts that math/bits reckons, with no program: trailing zeros, the length, and how many bits are 1, as Free, Last and Count ask them.
-/
import Derived.Test.YtlpdgomoepinjaaDoorBPlain
namespace Go.Proofs.YtlpdgomoepinjaaDoor
namespace Bt

theorem cut_bit (n a : Int) (j : Nat) : (cutI n a).toNat.testBit j = (decide (j < mN n) && a.toNat.testBit j) := by
  unfold cutI
  rw [Int.toNat_natCast, Nat.testBit_mod_two_pow]

theorem zero_bits {y : Nat} (h : y = 0) (j : Nat) : y.testBit j = false := by subst h; simp

theorem fre_none {a n : Int} (ha : U a) (h : cutI n (notI a) = 0) : freI a n = -1 := by
  unfold freI
  apply fre_all
  intro j hj
  have h1 := zero_bits (y := (cutI n (notI a)).toNat) (by rw [h]; rfl) j
  rw [cut_bit, notI_bit ha (by have := mN_le n; omega)] at h1
  simpa [hj] using h1

theorem ctz_bits {y : Nat} (h0 : y ≠ 0) (h : y < 18446744073709551616) : y.testBit (Lib.ctz 64 y) = true ∧ (∀ i, i < Lib.ctz 64 y → y.testBit i = false) ∧ Lib.ctz 64 y < 64 := by
  have e : Lib.ctz 64 y = Lib.ctzFrom 64 y := by simp [Lib.ctz, h0]
  rw [e]
  obtain ⟨m, hm, hk⟩ := Lib.ctzFrom_spec 64 y (by omega) h
  generalize Lib.ctzFrom 64 y = k at hm hk
  subst hm
  refine ⟨?_, fun i hi => ?_, hk⟩
  · rw [Nat.mul_comm, Nat.testBit_mul_two_pow]
    simp [Nat.testBit_zero]
  · rw [Nat.mul_comm, Nat.testBit_mul_two_pow, decide_eq_false (by omega)]
    simp

theorem fre_ctz {a n : Int} (ha : U a) (h : cutI n (notI a) ≠ 0) : (Lib.ctz 64 (cutI n (notI a)).toNat : Int) = freI a n := by
  have hu := cutI_U n (notI_U ha)
  have h1 := hu.1
  have h2 := hu.2
  obtain ⟨b1, b2, b3⟩ := ctz_bits (y := (cutI n (notI a)).toNat) (by omega) (by omega)
  generalize Lib.ctz 64 (cutI n (notI a)).toNat = k at b1 b2 b3
  rw [cut_bit, notI_bit ha b3] at b1
  simp only [Bool.and_eq_true, decide_eq_true_eq, Bool.not_eq_true'] at b1
  unfold freI
  refine (fre_at b1.2 (fun j hj => ?_) b1.1).symm
  have h3 := b2 j hj
  rw [cut_bit, notI_bit ha (by omega)] at h3
  simpa [show j < mN n by omega] using h3

theorem lst_empty {a n : Int} (h : cutI n a = 0) : lstI a n = -1 := by
  unfold lstI
  apply lst_none
  intro j hj
  have h1 := zero_bits (y := (cutI n a).toNat) (by rw [h]; rfl) j
  rw [cut_bit] at h1
  simpa [hj] using h1

theorem bitLenAux_spec : ∀ (f y : Nat), 0 < y → y < 2 ^ f → ∃ l, Lib.bitLenAux f y = l + 1 ∧ 2 ^ l ≤ y ∧ y < 2 ^ (l + 1)
  | 0, y, h0, h => by simp at h; omega
  | f + 1, y, h0, h => by
    unfold Lib.bitLenAux
    rw [if_neg (by omega)]
    by_cases h1 : y = 1
    · subst h1
      refine ⟨0, ?_, by decide, by decide⟩
      cases f <;> rfl
    · have hx : y / 2 < 2 ^ f := by rw [Nat.pow_succ] at h; omega
      obtain ⟨l, e, b1, b2⟩ := bitLenAux_spec f (y / 2) (by omega) hx
      refine ⟨l + 1, by omega, ?_, ?_⟩
      · rw [Nat.pow_succ]; omega
      · rw [Nat.pow_succ]; omega

theorem len_bits {y : Nat} (h0 : y ≠ 0) (h : y < 18446744073709551616) : ∃ l, Lib.bitLen y = l + 1 ∧ y.testBit l = true ∧ (∀ i, l < i → y.testBit i = false) := by
  obtain ⟨l, e, b1, b2⟩ := bitLenAux_spec 64 y (by omega) h
  refine ⟨l, e, ?_, fun i hi => ?_⟩
  · rw [bit_div]
    have hp : 0 < 2 ^ l := Nat.two_pow_pos l
    have h1 : y / 2 ^ l = 1 := by
      rw [Nat.pow_succ] at b2
      exact Nat.div_eq_of_lt_le (by omega) (by omega)
    rw [h1]
    rfl
  · exact Nat.testBit_lt_two_pow (Nat.lt_of_lt_of_le b2 (Nat.pow_le_pow_right (by decide) hi))

theorem lst_len {a n : Int} (ha : U a) (h : cutI n a ≠ 0) : (Lib.bitLen (cutI n a).toNat : Int) - 1 = lstI a n := by
  have hu := cutI_U n ha
  have h1 := hu.1
  have h2 := hu.2
  obtain ⟨l, e, b1, b2⟩ := len_bits (y := (cutI n a).toNat) (by omega) (by omega)
  rw [e]
  rw [cut_bit] at b1
  simp only [Bool.and_eq_true, decide_eq_true_eq] at b1
  unfold lstI
  rw [lst_at b1.2 b1.1 (fun j h3 h4 => ?_)]
  · omega
  · have h5 := b2 j h3
    rw [cut_bit] at h5
    simpa [h4] using h5

/-! How many bits are 1: the sums within a word -/

theorem and_split {b c q d : Nat} (hb : b < 256) (hc : c < 256) : (b + 256 * q) &&& (c + 256 * d) = (b &&& c) + 256 * (q &&& d) := by
  have hbc : b &&& c < 2 ^ 8 := Nat.lt_of_le_of_lt Nat.and_le_left hb
  rw [show b + 256 * q = 2 ^ 8 * q + b by omega, show c + 256 * d = 2 ^ 8 * d + c by omega, show (b &&& c) + 256 * (q &&& d) = 2 ^ 8 * (q &&& d) + (b &&& c) by omega]
  apply Nat.eq_of_testBit_eq
  intro j
  rw [Nat.testBit_and, Nat.testBit_two_pow_mul_add _ hb, Nat.testBit_two_pow_mul_add _ hc, Nat.testBit_two_pow_mul_add _ hbc]
  split <;> simp [Nat.testBit_and]

/-- The byte c, k times. -/
def msk (c : Nat) : Nat → Nat
  | 0 => 0
  | k + 1 => c + 256 * msk c k

/-- Of each of k bytes what f tells. -/
def D (f : Nat → Nat) : Nat → Nat → Nat
  | 0, _ => 0
  | k + 1, x => f (x % 256) + 256 * D f k (x / 256)

theorem msk_succ (c k : Nat) : msk c (k + 1) = c + 256 * msk c k := rfl
theorem D_succ (f : Nat → Nat) (k x : Nat) : D f (k + 1) x = f (x % 256) + 256 * D f k (x / 256) := rfl
theorem D_zero (f : Nat → Nat) (x : Nat) : D f 0 x = 0 := rfl
theorem cnt_succ (x m : Nat) : cnt x (m + 1) = cnt x m + (if x.testBit m then 1 else 0) := rfl
theorem cnt_none (x : Nat) : cnt x 0 = 0 := rfl

def t1 (b : Nat) : Nat := (b / 2 &&& 85) + (b &&& 85)
def t2 (b : Nat) : Nat := (b / 4 &&& 51) + (b &&& 51)
def g (b : Nat) : Nat := t2 (t1 b)

theorem t1_all : ∀ b : Fin 256, (∀ e : Fin 2, (b.val / 2 + 128 * e.val) &&& 85 = b.val / 2 &&& 85) ∧ t1 b.val < 256 := by decide +kernel
theorem t2_all : ∀ b : Fin 256, (∀ e : Fin 4, (b.val / 4 + 64 * e.val) &&& 51 = b.val / 4 &&& 51) ∧ t2 b.val < 256 := by decide +kernel
theorem g_all : ∀ b : Fin 256, (∀ e : Fin 5, (g b.val / 16 + 16 * e.val + g b.val) &&& 15 = cnt b.val 8 ∧ g b.val / 16 + 16 * e.val + g b.val < 256) ∧ g b.val % 16 < 5 ∧ g b.val < 256 := by decide +kernel

theorem s1 : ∀ (k x : Nat), (x / 2 &&& msk 85 k) + (x &&& msk 85 k) = D t1 k x
  | 0, x => by simp [msk, D]
  | k + 1, x => by
    have ih := s1 k (x / 256)
    have hb : x % 256 < 256 := by omega
    obtain ⟨h1, h2⟩ := t1_all ⟨x % 256, hb⟩
    have h3 := h1 ⟨x / 256 % 2, by omega⟩
    simp only at h3
    have e1 : x / 2 = (x % 256 / 2 + 128 * (x / 256 % 2)) + 256 * (x / 256 / 2) := by omega
    have e2 : x = x % 256 + 256 * (x / 256) := by omega
    have e3 : x / 2 &&& msk 85 (k + 1) = (x % 256 / 2 &&& 85) + 256 * (x / 256 / 2 &&& msk 85 k) := by
      conv => lhs; rw [e1]
      rw [msk_succ, and_split (by omega) (by decide), h3]
    have e4 : x &&& msk 85 (k + 1) = (x % 256 &&& 85) + 256 * (x / 256 &&& msk 85 k) := by
      conv => lhs; rw [e2]
      rw [msk_succ, and_split (by omega) (by decide)]
    rw [e3, e4, D_succ, ← ih]
    unfold t1
    omega

theorem s2 : ∀ (k x : Nat), (x / 4 &&& msk 51 k) + (x &&& msk 51 k) = D t2 k x
  | 0, x => by simp [msk, D]
  | k + 1, x => by
    have ih := s2 k (x / 256)
    have hb : x % 256 < 256 := by omega
    obtain ⟨h1, h2⟩ := t2_all ⟨x % 256, hb⟩
    have h3 := h1 ⟨x / 256 % 4, by omega⟩
    simp only at h3
    have e1 : x / 4 = (x % 256 / 4 + 64 * (x / 256 % 4)) + 256 * (x / 256 / 4) := by omega
    have e2 : x = x % 256 + 256 * (x / 256) := by omega
    have e3 : x / 4 &&& msk 51 (k + 1) = (x % 256 / 4 &&& 51) + 256 * (x / 256 / 4 &&& msk 51 k) := by
      conv => lhs; rw [e1]
      rw [msk_succ, and_split (by omega) (by decide), h3]
    have e4 : x &&& msk 51 (k + 1) = (x % 256 &&& 51) + 256 * (x / 256 &&& msk 51 k) := by
      conv => lhs; rw [e2]
      rw [msk_succ, and_split (by omega) (by decide)]
    rw [e3, e4, D_succ, ← ih]
    unfold t2
    omega

theorem d_d : ∀ (k x : Nat), D t2 k (D t1 k x) = D g k x
  | 0, x => rfl
  | k + 1, x => by
    have h1 := (t1_all ⟨x % 256, by omega⟩).2
    simp only at h1
    rw [D_succ t2, D_succ t1, show (t1 (x % 256) + 256 * D t1 k (x / 256)) % 256 = t1 (x % 256) by omega, show (t1 (x % 256) + 256 * D t1 k (x / 256)) / 256 = D t1 k (x / 256) by omega, d_d k, D_succ]
    rfl

theorem d_low (k x : Nat) : D g k x % 16 < 5 := by
  cases k with
  | zero => simp [D]
  | succ k =>
    have h1 := (g_all ⟨x % 256, by omega⟩).2.1
    simp only at h1
    have e : D g (k + 1) x = g (x % 256) + 256 * D g k (x / 256) := D_succ _ _ _
    omega

theorem s3 : ∀ (k x : Nat), (D g k x / 16 + D g k x) &&& msk 15 k = D (fun b => cnt b 8) k x
  | 0, x => by simp [msk, D]
  | k + 1, x => by
    have ih := s3 k (x / 256)
    obtain ⟨h1, h2, h4⟩ := g_all ⟨x % 256, by omega⟩
    have h5 := d_low k (x / 256)
    obtain ⟨h3, h6⟩ := h1 ⟨D g k (x / 256) % 16, h5⟩
    simp only at h2 h3 h4 h6
    have e : D g (k + 1) x = g (x % 256) + 256 * D g k (x / 256) := D_succ _ _ _
    rw [e]
    have e1 : (g (x % 256) + 256 * D g k (x / 256)) / 16 + (g (x % 256) + 256 * D g k (x / 256)) = (g (x % 256) / 16 + 16 * (D g k (x / 256) % 16) + g (x % 256)) + 256 * (D g k (x / 256) / 16 + D g k (x / 256)) := by omega
    rw [e1]
    rw [msk_succ, and_split h6 (by decide), h3, ih, D_succ]

theorem cnt_split (x : Nat) : ∀ k, cnt x (k + 8) = cnt (x % 256) 8 + cnt (x / 256) k
  | 0 => by
    rw [Nat.zero_add, cnt_none, Nat.add_zero]
    refine cnt_congr fun j hj => ?_
    rw [show (256 : Nat) = 2 ^ 8 from rfl, Nat.testBit_mod_two_pow]
    simp [hj]
  | k + 1 => by
    have ih := cnt_split x k
    have e1 : cnt x (k + 1 + 8) = cnt x (k + 8) + (if x.testBit (k + 8) then 1 else 0) := by
      rw [show k + 1 + 8 = (k + 8) + 1 by omega, cnt_succ]
    have e2 : cnt (x / 256) (k + 1) = cnt (x / 256) k + (if (x / 256).testBit k then 1 else 0) := cnt_succ _ _
    have e3 : (x / 256).testBit k = x.testBit (k + 8) := by
      rw [show (256 : Nat) = 2 ^ 8 from rfl, Nat.testBit_div_two_pow]
    rw [e1, e2, e3, ih]
    omega

theorem msk85 : msk 85 8 = 6148914691236517205 := by decide
theorem msk51 : msk 51 8 = 3689348814741910323 := by decide
theorem msk15 : msk 15 8 = 1085102592571150095 := by decide

def q1 (x : Nat) : Nat := (x / 2 &&& 6148914691236517205) + (x &&& 6148914691236517205)
def q2 (x : Nat) : Nat := (x / 4 &&& 3689348814741910323) + (x &&& 3689348814741910323)
def q3 (x : Nat) : Nat := (x / 16 + x) &&& 1085102592571150095
def q4 (x : Nat) : Nat := x + x / 256
def q5 (x : Nat) : Nat := x + x / 65536
def q6 (x : Nat) : Nat := x + x / 4294967296

theorem q3_eq (x : Nat) : q3 (q2 (q1 x)) = D (fun b => cnt b 8) 8 x := by
  unfold q3 q2 q1
  rw [← msk85, ← msk51, ← msk15, s1, s2, d_d, s3]

theorem pop_sum (x : Nat) : ∃ c0 c1 c2 c3 c4 c5 c6 c7 : Nat, c0 ≤ 8 ∧ c1 ≤ 8 ∧ c2 ≤ 8 ∧ c3 ≤ 8 ∧ c4 ≤ 8 ∧ c5 ≤ 8 ∧ c6 ≤ 8 ∧ c7 ≤ 8 ∧
    q3 (q2 (q1 x)) = c0 + 256 * c1 + 65536 * c2 + 16777216 * c3 + 4294967296 * c4 + 1099511627776 * c5 + 281474976710656 * c6 + 72057594037927936 * c7 ∧ cnt x 64 = c0 + c1 + c2 + c3 + c4 + c5 + c6 + c7 := by
  refine ⟨_, _, _, _, _, _, _, _, cnt_le (x % 256) 8, cnt_le (x / 256 % 256) 8, cnt_le (x / 256 / 256 % 256) 8, cnt_le (x / 256 / 256 / 256 % 256) 8, cnt_le (x / 256 / 256 / 256 / 256 % 256) 8, cnt_le (x / 256 / 256 / 256 / 256 / 256 % 256) 8, cnt_le (x / 256 / 256 / 256 / 256 / 256 / 256 % 256) 8, cnt_le (x / 256 / 256 / 256 / 256 / 256 / 256 / 256 % 256) 8, ?_, ?_⟩
  · rw [q3_eq]
    rw [D_succ, D_succ, D_succ, D_succ, D_succ, D_succ, D_succ, D_succ, D_zero]
    omega
  · rw [cnt_split x 56, cnt_split (x / 256) 48, cnt_split (x / 256 / 256) 40, cnt_split (x / 256 / 256 / 256) 32, cnt_split (x / 256 / 256 / 256 / 256) 24, cnt_split (x / 256 / 256 / 256 / 256 / 256) 16, cnt_split (x / 256 / 256 / 256 / 256 / 256 / 256) 8, cnt_split (x / 256 / 256 / 256 / 256 / 256 / 256 / 256) 0, cnt_none]
    omega

theorem pop_bounds (x : Nat) : q1 x < 18446744073709551616 ∧ q2 (q1 x) < 18446744073709551616 := by
  have h1 : x / 2 &&& 6148914691236517205 ≤ 6148914691236517205 := Nat.and_le_right
  have h2 : x &&& 6148914691236517205 ≤ 6148914691236517205 := Nat.and_le_right
  have h3 : q1 x / 4 &&& 3689348814741910323 ≤ 3689348814741910323 := Nat.and_le_right
  have h4 : q1 x &&& 3689348814741910323 ≤ 3689348814741910323 := Nat.and_le_right
  constructor
  · unfold q1; omega
  · unfold q2; omega

theorem div_off (b c r z : Nat) (h : c < b) (e : z = c + b * r) : z / b = r := by
  rw [e, Nat.add_mul_div_left _ _ (by omega), Nat.div_eq_of_lt h, Nat.zero_add]

theorem pop_arith {c0 c1 c2 c3 c4 c5 c6 c7 : Nat} (h0 : c0 ≤ 8) (h1 : c1 ≤ 8) (h2 : c2 ≤ 8) (h3 : c3 ≤ 8) (h4 : c4 ≤ 8) (h5 : c5 ≤ 8) (h6 : c6 ≤ 8) (h7 : c7 ≤ 8) (z y u v : Nat)
    (e : z = c0 + 256 * c1 + 65536 * c2 + 16777216 * c3 + 4294967296 * c4 + 1099511627776 * c5 + 281474976710656 * c6 + 72057594037927936 * c7)
    (ey : y = z + z / 256) (eu : u = y + y / 65536) (ev : v = u + u / 4294967296) :
    y < 18446744073709551616 ∧ u < 18446744073709551616 ∧ v < 9223372036854775808 ∧ v % 128 = c0 + c1 + c2 + c3 + c4 + c5 + c6 + c7 := by
  have k4 : z / 256 = c1 + 256 * c2 + 65536 * c3 + 16777216 * c4 + 4294967296 * c5 + 1099511627776 * c6 + 281474976710656 * c7 := div_off 256 c0 _ _ (by omega) (by rw [e]; clear ey eu ev; omega)
  rw [k4] at ey
  have e4 : y = (c0 + c1) + 256 * (c1 + c2) + 65536 * (c2 + c3) + 16777216 * (c3 + c4) + 4294967296 * (c4 + c5) + 1099511627776 * (c5 + c6) + 281474976710656 * (c6 + c7) + 72057594037927936 * c7 := by
    rw [ey, e]
    clear eu ev
    omega
  clear k4 e ey
  have k5 : y / 65536 = (c2 + c3) + 256 * (c3 + c4) + 65536 * (c4 + c5) + 16777216 * (c5 + c6) + 4294967296 * (c6 + c7) + 1099511627776 * c7 := div_off 65536 ((c0 + c1) + 256 * (c1 + c2)) _ _ (by clear eu ev; omega) (by rw [e4]; clear eu ev; omega)
  rw [k5] at eu
  have e5 : u = (c0 + c1 + c2 + c3) + 256 * (c1 + c2 + c3 + c4) + 65536 * (c2 + c3 + c4 + c5) + 16777216 * (c3 + c4 + c5 + c6) + 4294967296 * (c4 + c5 + c6 + c7) + 1099511627776 * (c5 + c6 + c7) + 281474976710656 * (c6 + c7) + 72057594037927936 * c7 := by
    rw [eu, e4]
    clear ev
    omega
  have b4 : y < 18446744073709551616 := by clear ev; omega
  clear k5 e4 eu
  have k6 : u / 4294967296 = (c4 + c5 + c6 + c7) + 256 * (c5 + c6 + c7) + 65536 * (c6 + c7) + 16777216 * c7 := div_off 4294967296 ((c0 + c1 + c2 + c3) + 256 * (c1 + c2 + c3 + c4) + 65536 * (c2 + c3 + c4 + c5) + 16777216 * (c3 + c4 + c5 + c6)) _ _ (by clear ev; omega) (by rw [e5]; clear ev; omega)
  rw [k6] at ev
  have e6 : v = (c0 + c1 + c2 + c3 + c4 + c5 + c6 + c7) + 128 * (2 * (c1 + c2 + c3 + c4) + 512 * (c2 + c3 + c4 + c5) + 131072 * (c3 + c4 + c5 + c6) + 33554432 * (c4 + c5 + c6 + c7) + 8589934592 * (c5 + c6 + c7) + 2199023255552 * (c6 + c7) + 562949953421312 * c7 + 2 * (c5 + c6 + c7) + 512 * (c6 + c7) + 131072 * c7) := by
    rw [ev, e5]
    omega
  clear k6 ev
  have b5 : u < 18446744073709551616 := by clear e6; omega
  clear e5
  refine ⟨b4, b5, by rw [e6]; omega, ?_⟩
  rw [e6, Nat.add_mul_mod_self_left, Nat.mod_eq_of_lt (by omega)]

theorem pop_last (x : Nat) : q4 (q3 (q2 (q1 x))) < 18446744073709551616 ∧ q5 (q4 (q3 (q2 (q1 x)))) < 18446744073709551616 ∧ q6 (q5 (q4 (q3 (q2 (q1 x))))) < 9223372036854775808 ∧ q6 (q5 (q4 (q3 (q2 (q1 x))))) % 128 = cnt x 64 := by
  obtain ⟨c0, c1, c2, c3, c4, c5, c6, c7, h0, h1, h2, h3, h4, h5, h6, h7, e, ec⟩ := pop_sum x
  rw [ec]
  exact pop_arith h0 h1 h2 h3 h4 h5 h6 h7 _ _ _ _ e rfl rfl rfl

theorem cnt_cut (a n : Int) : (cnt (cutI n a).toNat 64 : Int) = cntI a n := by
  have hm := mN_le n
  unfold cntI
  congr 1
  have h : ∀ k, mN n ≤ k → cnt (cutI n a).toNat k = cnt a.toNat (mN n) := fun k hk => by
    obtain ⟨d, rfl⟩ : ∃ d, k = mN n + d := ⟨k - mN n, by omega⟩
    clear hk
    induction d with
    | zero =>
      refine cnt_congr fun j hj => ?_
      rw [cut_bit]
      simp [show j < mN n from hj]
    | succ d ih =>
      have e : cnt (cutI n a).toNat (mN n + (d + 1)) = cnt (cutI n a).toNat (mN n + d) + (if (cutI n a).toNat.testBit (mN n + d) then 1 else 0) := cnt_succ _ _
      rw [e, ih, cut_bit, decide_eq_false (by omega)]
      simp
  exact h 64 hm

end Bt
end Go.Proofs.YtlpdgomoepinjaaDoor
