/-
  Small sets as the bits of a word, with no program: what Has, Set, Clear, Free, Last, Count and Full tell, number by number; and what follows.
-/
import Derived.Lib.TrailingZeros
import Derived.Lib.BitFns
import Derived.Test.YtbbjfebdihepnaaGreatDoorProg
import Derived.WalkKit
import Derived.Handy
import Derived.WalkSpells
import Derived.Below
import Derived.Laws.Bits64b
import Derived.Laws.Bits128
namespace Go.Proofs.YtbbjfebdihepnaaGreatDoor
namespace Bt

/-- A word. -/
def U (a : Int) : Prop := 0 ≤ a ∧ a ≤ 18446744073709551615
/-- A number that may be in a set. -/
def N (k : Int) : Prop := 0 ≤ k ∧ k ≤ 63

def hasI (a k : Int) : Bool := decide (0 ≤ k) && decide (k ≤ 63) && a.toNat.testBit k.toNat
def oneI (k : Int) : Int := ((2 ^ k.toNat : Nat) : Int)
def setI (a k : Int) : Int := ((a.toNat ||| 2 ^ k.toNat : Nat) : Int)
def clrI (a k : Int) : Int := ((a.toNat &&& (18446744073709551615 - 2 ^ k.toNat) : Nat) : Int)
def notI (a : Int) : Int := 18446744073709551615 - a
/-- How many numbers are asked for. -/
def mN (n : Int) : Nat := (min (max n 0) 64).toNat
def cutI (n a : Int) : Int := ((a.toNat % 2 ^ mN n : Nat) : Int)

def cnt (x : Nat) : Nat → Nat
  | 0 => 0
  | m + 1 => cnt x m + (if x.testBit m then 1 else 0)
def lst (x : Nat) : Nat → Int
  | 0 => -1
  | m + 1 => if x.testBit m then (m : Int) else lst x m
def fre (x : Nat) : Nat → Int
  | 0 => -1
  | m + 1 => if fre x m = -1 then (if x.testBit m then -1 else (m : Int)) else fre x m

def cntI (a n : Int) : Int := (cnt a.toNat (mN n) : Int)
def lstI (a n : Int) : Int := lst a.toNat (mN n)
def freI (a n : Int) : Int := fre a.toNat (mN n)
def fulI (n : Int) : Int := ((2 ^ mN n - 1 : Nat) : Int)

theorem two64 : (18446744073709551616 : Nat) = 2 ^ 64 := by decide
theorem mN_le (n : Int) : mN n ≤ 64 := by unfold mN; omega
theorem mN_of (n : Int) (h0 : 0 ≤ n) (h1 : n ≤ 64) : (mN n : Int) = n := by unfold mN; omega

theorem pow_lt {k : Nat} (h : k < 64) : 2 ^ k < 18446744073709551616 := by
  rw [two64]
  exact Nat.pow_lt_pow_right (by decide) h

theorem oneI_U {k : Int} (h : N k) : U (oneI k) := by
  have h1 := pow_lt (k := k.toNat) (by have := h.1; have := h.2; omega)
  unfold U oneI
  generalize 2 ^ k.toNat = p at h1 ⊢
  omega
theorem setI_U {a k : Int} (ha : U a) (h : N k) : U (setI a k) := by
  have h1 := pow_lt (k := k.toNat) (by have := h.1; have := h.2; omega)
  have h2 : a.toNat ||| 2 ^ k.toNat < 2 ^ 64 := Nat.or_lt_two_pow (by have := ha.1; have := ha.2; omega) (by omega)
  unfold U setI
  omega
theorem clrI_U {a k : Int} (ha : U a) : U (clrI a k) := by
  have h1 : a.toNat &&& (18446744073709551615 - 2 ^ k.toNat) ≤ a.toNat := Nat.and_le_left
  have := ha.1; have := ha.2
  unfold U clrI
  omega
theorem notI_U {a : Int} (ha : U a) : U (notI a) := by
  have := ha.1; have := ha.2
  unfold U notI
  omega
theorem cutI_U {a : Int} (n : Int) (ha : U a) : U (cutI n a) := by
  have h1 : a.toNat % 2 ^ mN n ≤ a.toNat := Nat.mod_le _ _
  have := ha.1; have := ha.2
  unfold U cutI
  omega
theorem not_bit {x : Nat} (h : x < 18446744073709551616) {j : Nat} (hj : j < 64) : (18446744073709551615 - x).testBit j = !x.testBit j := by
  have := Nat.testBit_two_pow_sub_succ (x := x) (n := 64) (by omega) j
  rw [show 18446744073709551615 - x = 2 ^ 64 - (x + 1) by omega, this]
  simp [hj]

theorem notI_bit {a : Int} (ha : U a) {j : Nat} (hj : j < 64) : (notI a).toNat.testBit j = !a.toNat.testBit j := by
  have := ha.1; have := ha.2
  rw [show (notI a).toNat = 18446744073709551615 - a.toNat by unfold notI; omega]
  exact not_bit (by omega) hj

theorem set_bit (a k : Int) (j : Nat) : (setI a k).toNat.testBit j = (a.toNat.testBit j || decide (k.toNat = j)) := by
  unfold setI
  rw [Int.toNat_natCast, Nat.testBit_or, Nat.testBit_two_pow]

theorem clr_bit {a k : Int} (h : N k) {j : Nat} (hj : j < 64) : (clrI a k).toNat.testBit j = (a.toNat.testBit j && !decide (k.toNat = j)) := by
  unfold clrI
  rw [Int.toNat_natCast, Nat.testBit_and, not_bit (pow_lt (by have := h.1; have := h.2; omega)) hj, Nat.testBit_two_pow]

/-- Two words with the same bits are one. -/
theorem ext {a b : Int} (ha : U a) (hb : U b) (h : ∀ j, j < 64 → a.toNat.testBit j = b.toNat.testBit j) : a = b := by
  have h1 : a.toNat = b.toNat := by
    apply Nat.eq_of_testBit_eq
    intro j
    by_cases hj : j < 64
    · exact h j hj
    · have e1 : a.toNat < 2 ^ j := Nat.lt_of_lt_of_le (show a.toNat < 2 ^ 64 by have := ha.1; have := ha.2; omega) (Nat.pow_le_pow_right (by decide) (by omega))
      have e2 : b.toNat < 2 ^ j := Nat.lt_of_lt_of_le (show b.toNat < 2 ^ 64 by have := hb.1; have := hb.2; omega) (Nat.pow_le_pow_right (by decide) (by omega))
      rw [Nat.testBit_lt_two_pow e1, Nat.testBit_lt_two_pow e2]
  have := ha.1; have := hb.1
  omega

theorem and_pow (x k : Nat) : x &&& 2 ^ k = if x.testBit k then 2 ^ k else 0 := by
  apply Nat.eq_of_testBit_eq
  intro j
  rw [Nat.testBit_and, Nat.testBit_two_pow]
  by_cases h : k = j
  · subst h
    cases x.testBit k <;> simp
  · cases x.testBit k <;> simp [h]

theorem hasI_N {a k : Int} (hk : N k) : hasI a k = a.toNat.testBit k.toNat := by
  have h1 := hk.1
  have h2 := hk.2
  simp [hasI, h1, h2]
theorem hasI_out {a k : Int} (hk : ¬ N k) : hasI a k = false := by
  unfold N at hk
  by_cases h1 : 0 ≤ k
  · have h2 : ¬ k ≤ 63 := fun h => hk ⟨h1, h⟩
    simp [hasI, h2]
  · simp [hasI, h1]

/-! What Free, Last and Count tell -/

theorem fre_all {x : Nat} : ∀ {m : Nat}, (∀ j, j < m → x.testBit j = true) → fre x m = -1
  | 0, _ => rfl
  | m + 1, h => by
    unfold fre
    rw [fre_all (m := m) (fun j hj => h j (by omega)), if_pos rfl, h m (by omega)]
    simp
theorem fre_at {x k : Nat} (hk : x.testBit k = false) (h : ∀ j, j < k → x.testBit j = true) : ∀ {m : Nat}, k < m → fre x m = (k : Int)
  | 0, hm => by omega
  | m + 1, hm => by
    unfold fre
    by_cases he : k = m
    · subst he
      rw [fre_all h, if_pos rfl, hk]
      simp
    · rw [fre_at hk h (show k < m by omega), if_neg (by omega)]
theorem fre_cases (x : Nat) : ∀ m : Nat, (fre x m = -1 ∧ ∀ j, j < m → x.testBit j = true) ∨ (∃ k : Nat, k < m ∧ fre x m = (k : Int) ∧ x.testBit k = false ∧ ∀ j, j < k → x.testBit j = true)
  | 0 => Or.inl ⟨rfl, fun j hj => by omega⟩
  | m + 1 => by
    rcases fre_cases x m with ⟨h1, h2⟩ | ⟨k, h1, h2, h3, h4⟩
    · cases hb : x.testBit m
      · exact Or.inr ⟨m, by omega, fre_at hb h2 (by omega), hb, h2⟩
      · have hall : ∀ j, j < m + 1 → x.testBit j = true := fun j hj => by
          by_cases he : j = m
          · rw [he]; exact hb
          · exact h2 j (by omega)
        exact Or.inl ⟨fre_all hall, hall⟩
    · exact Or.inr ⟨k, by omega, fre_at h3 h4 (by omega), h3, h4⟩

end Bt
end Go.Proofs.YtbbjfebdihepnaaGreatDoor

/-
  The three counts that math/bits reckons, with no program: trailing zeros, the length, and how many bits are 1, as Free, Last and Count ask them.
-/
namespace Go.Proofs.YtbbjfebdihepnaaGreatDoor
namespace Bt

theorem cut_bit (n a : Int) (j : Nat) : (cutI n a).toNat.testBit j = (decide (j < mN n) && a.toNat.testBit j) := by
  unfold cutI
  rw [Int.toNat_natCast, Nat.testBit_mod_two_pow]

theorem zero_bits {y : Nat} (h : y = 0) (j : Nat) : y.testBit j = false := by subst h; simp

theorem fre_none {a n : Int} (ha : U a) (h : cutI n (notI a) = 0) : freI a n = -1 := by
  unfold freI
  apply fre_all
  intro j hj
  have h1 := zero_bits (y := (cutI n (notI a)).toNat) (by rw [h]; rfl) j
  rw [cut_bit, notI_bit ha (by have := mN_le n; omega)] at h1
  simpa [hj] using h1

theorem ctz_bits {y : Nat} (h0 : y ≠ 0) (h : y < 18446744073709551616) : y.testBit (Lib.ctz 64 y) = true ∧ (∀ i, i < Lib.ctz 64 y → y.testBit i = false) ∧ Lib.ctz 64 y < 64 := by
  have e : Lib.ctz 64 y = Lib.ctzFrom 64 y := by simp [Lib.ctz, h0]
  rw [e]
  obtain ⟨m, hm, hk⟩ := Lib.ctzFrom_spec 64 y (by omega) h
  generalize Lib.ctzFrom 64 y = k at hm hk
  subst hm
  refine ⟨?_, fun i hi => ?_, hk⟩
  · rw [Nat.mul_comm, Nat.testBit_mul_two_pow]
    simp [Nat.testBit_zero]
  · rw [Nat.mul_comm, Nat.testBit_mul_two_pow, decide_eq_false (by omega)]
    simp

theorem fre_ctz {a n : Int} (ha : U a) (h : cutI n (notI a) ≠ 0) : (Lib.ctz 64 (cutI n (notI a)).toNat : Int) = freI a n := by
  have hu := cutI_U n (notI_U ha)
  have h1 := hu.1
  have h2 := hu.2
  obtain ⟨b1, b2, b3⟩ := ctz_bits (y := (cutI n (notI a)).toNat) (by omega) (by omega)
  generalize Lib.ctz 64 (cutI n (notI a)).toNat = k at b1 b2 b3
  rw [cut_bit, notI_bit ha b3] at b1
  simp only [Bool.and_eq_true, decide_eq_true_eq, Bool.not_eq_true'] at b1
  unfold freI
  refine (fre_at b1.2 (fun j hj => ?_) b1.1).symm
  have h3 := b2 j hj
  rw [cut_bit, notI_bit ha (by omega)] at h3
  simpa [show j < mN n by omega] using h3

/-! How many bits are 1: the sums within a word -/

theorem and_split {b c q d : Nat} (hb : b < 256) (hc : c < 256) : (b + 256 * q) &&& (c + 256 * d) = (b &&& c) + 256 * (q &&& d) := by
  have hbc : b &&& c < 2 ^ 8 := Nat.lt_of_le_of_lt Nat.and_le_left hb
  rw [show b + 256 * q = 2 ^ 8 * q + b by omega, show c + 256 * d = 2 ^ 8 * d + c by omega, show (b &&& c) + 256 * (q &&& d) = 2 ^ 8 * (q &&& d) + (b &&& c) by omega]
  apply Nat.eq_of_testBit_eq
  intro j
  rw [Nat.testBit_and, Nat.testBit_two_pow_mul_add _ hb, Nat.testBit_two_pow_mul_add _ hc, Nat.testBit_two_pow_mul_add _ hbc]
  split <;> simp [Nat.testBit_and]

/-- The byte c, k times. -/
def msk (c : Nat) : Nat → Nat
  | 0 => 0
  | k + 1 => c + 256 * msk c k

/-- Of each of k bytes what f tells. -/
def D (f : Nat → Nat) : Nat → Nat → Nat
  | 0, _ => 0
  | k + 1, x => f (x % 256) + 256 * D f k (x / 256)

theorem msk_succ (c k : Nat) : msk c (k + 1) = c + 256 * msk c k := rfl
theorem D_succ (f : Nat → Nat) (k x : Nat) : D f (k + 1) x = f (x % 256) + 256 * D f k (x / 256) := rfl
def t1 (b : Nat) : Nat := (b / 2 &&& 85) + (b &&& 85)
def t2 (b : Nat) : Nat := (b / 4 &&& 51) + (b &&& 51)
def g (b : Nat) : Nat := t2 (t1 b)

theorem t1_all : ∀ b : Fin 256, (∀ e : Fin 2, (b.val / 2 + 128 * e.val) &&& 85 = b.val / 2 &&& 85) ∧ t1 b.val < 256 := by decide +kernel
theorem t2_all : ∀ b : Fin 256, (∀ e : Fin 4, (b.val / 4 + 64 * e.val) &&& 51 = b.val / 4 &&& 51) ∧ t2 b.val < 256 := by decide +kernel
theorem g_all : ∀ b : Fin 256, (∀ e : Fin 5, (g b.val / 16 + 16 * e.val + g b.val) &&& 15 = cnt b.val 8 ∧ g b.val / 16 + 16 * e.val + g b.val < 256) ∧ g b.val % 16 < 5 ∧ g b.val < 256 := by decide +kernel

theorem s1 : ∀ (k x : Nat), (x / 2 &&& msk 85 k) + (x &&& msk 85 k) = D t1 k x
  | 0, x => by simp [msk, D]
  | k + 1, x => by
    have ih := s1 k (x / 256)
    have hb : x % 256 < 256 := by omega
    obtain ⟨h1, h2⟩ := t1_all ⟨x % 256, hb⟩
    have h3 := h1 ⟨x / 256 % 2, by omega⟩
    simp only at h3
    have e1 : x / 2 = (x % 256 / 2 + 128 * (x / 256 % 2)) + 256 * (x / 256 / 2) := by omega
    have e2 : x = x % 256 + 256 * (x / 256) := by omega
    have e3 : x / 2 &&& msk 85 (k + 1) = (x % 256 / 2 &&& 85) + 256 * (x / 256 / 2 &&& msk 85 k) := by
      conv => lhs; rw [e1]
      rw [msk_succ, and_split (by omega) (by decide), h3]
    have e4 : x &&& msk 85 (k + 1) = (x % 256 &&& 85) + 256 * (x / 256 &&& msk 85 k) := by
      conv => lhs; rw [e2]
      rw [msk_succ, and_split (by omega) (by decide)]
    rw [e3, e4, D_succ, ← ih]
    unfold t1
    omega

theorem s2 : ∀ (k x : Nat), (x / 4 &&& msk 51 k) + (x &&& msk 51 k) = D t2 k x
  | 0, x => by simp [msk, D]
  | k + 1, x => by
    have ih := s2 k (x / 256)
    have hb : x % 256 < 256 := by omega
    obtain ⟨h1, h2⟩ := t2_all ⟨x % 256, hb⟩
    have h3 := h1 ⟨x / 256 % 4, by omega⟩
    simp only at h3
    have e1 : x / 4 = (x % 256 / 4 + 64 * (x / 256 % 4)) + 256 * (x / 256 / 4) := by omega
    have e2 : x = x % 256 + 256 * (x / 256) := by omega
    have e3 : x / 4 &&& msk 51 (k + 1) = (x % 256 / 4 &&& 51) + 256 * (x / 256 / 4 &&& msk 51 k) := by
      conv => lhs; rw [e1]
      rw [msk_succ, and_split (by omega) (by decide), h3]
    have e4 : x &&& msk 51 (k + 1) = (x % 256 &&& 51) + 256 * (x / 256 &&& msk 51 k) := by
      conv => lhs; rw [e2]
      rw [msk_succ, and_split (by omega) (by decide)]
    rw [e3, e4, D_succ, ← ih]
    unfold t2
    omega

theorem d_low (k x : Nat) : D g k x % 16 < 5 := by
  cases k with
  | zero => simp [D]
  | succ k =>
    have h1 := (g_all ⟨x % 256, by omega⟩).2.1
    simp only at h1
    have e : D g (k + 1) x = g (x % 256) + 256 * D g k (x / 256) := D_succ _ _ _
    omega

theorem s3 : ∀ (k x : Nat), (D g k x / 16 + D g k x) &&& msk 15 k = D (fun b => cnt b 8) k x
  | 0, x => by simp [msk, D]
  | k + 1, x => by
    have ih := s3 k (x / 256)
    obtain ⟨h1, h2, h4⟩ := g_all ⟨x % 256, by omega⟩
    have h5 := d_low k (x / 256)
    obtain ⟨h3, h6⟩ := h1 ⟨D g k (x / 256) % 16, h5⟩
    simp only at h2 h3 h4 h6
    have e : D g (k + 1) x = g (x % 256) + 256 * D g k (x / 256) := D_succ _ _ _
    rw [e]
    have e1 : (g (x % 256) + 256 * D g k (x / 256)) / 16 + (g (x % 256) + 256 * D g k (x / 256)) = (g (x % 256) / 16 + 16 * (D g k (x / 256) % 16) + g (x % 256)) + 256 * (D g k (x / 256) / 16 + D g k (x / 256)) := by omega
    rw [e1]
    rw [msk_succ, and_split h6 (by decide), h3, ih, D_succ]

def q1 (x : Nat) : Nat := (x / 2 &&& 6148914691236517205) + (x &&& 6148914691236517205)
def q2 (x : Nat) : Nat := (x / 4 &&& 3689348814741910323) + (x &&& 3689348814741910323)
def q3 (x : Nat) : Nat := (x / 16 + x) &&& 1085102592571150095
def q4 (x : Nat) : Nat := x + x / 256
def q5 (x : Nat) : Nat := x + x / 65536
def q6 (x : Nat) : Nat := x + x / 4294967296

end Bt
end Go.Proofs.YtbbjfebdihepnaaGreatDoor

/-
  Walks of the smallest functions: isNumber, only, cutter and what it answers, and math/bits' trailing zeros.
-/
namespace Go.Proofs.YtbbjfebdihepnaaGreatDoor
open Go.RowKit
namespace Bt

/-- Nothing that was there has turned. -/
structure K (w w' : World) : Prop where
  bel : Below w.heap.size w w'

theorem K.refl (w : World) : K w w := ⟨Below.refl _ _⟩
theorem K.trans {w w' w'' : World} (h : K w w') (k : K w' w'') : K w w'' := ⟨h.bel.trans (k.bel.mono h.bel.size)⟩
theorem K.drew {w w' : World} (h : K w w') : K w w'.drew := ⟨h.bel.drew⟩
theorem K.alloc {w w' : World} (h : K w w') (o : Obj) : K w (w'.alloc o) := ⟨h.bel.alloc h.bel.size o⟩

/-- The table of math/bits in its variable. -/
def Tab (w : World) : Prop := ∀ j, j < 64 → w.cell? ⟨1, j, none⟩ = some (.int .u8 (Lib.deBruijn64tab.getD j 0 : Nat))

theorem lt_of_cell {w : World} {p : Addr} {v : Value} (h : w.cell? p = some v) : p.block < w.heap.size := by
  apply Nat.lt_of_not_le
  intro hle
  have : w.heap[p.block]? = none := Array.getElem?_eq_none hle
  simp [World.cell?, this] at h

theorem K.cell {w w' : World} (h : K w w') {p : Addr} {v : Value} (hc : w.cell? p = some v) : w'.cell? p = some v := by
  rw [h.bel.cell (lt_of_cell hc)]
  exact hc

theorem Tab.keep {w w' : World} (T : Tab w) (h : K w w') : Tab w' := fun j hj => h.cell (T j hj)

theorem isNumber_in (k : Int) (h : N k) (w : World) : Calls Tryz.prog 138 #[.int .i64 k] w fun e w' => e = .returned (.bool true) ∧ w = w' := by
  have h0 := h.1
  have h1 : k < 64 := by have := h.2; omega
  go_enter Tryz.func138, Tryz.ntmps138
  go_wp2
  go_ret
  exact ⟨rfl, rfl⟩

theorem isNumber_out (k : Int) (h : ¬ N k) (w : World) : Calls Tryz.prog 138 #[.int .i64 k] w fun e w' => e = .returned (.bool false) ∧ w = w' := by
  by_cases h0 : 0 ≤ k
  · have h1 : ¬ k < 64 := by unfold N at h; omega
    go_enter Tryz.func138, Tryz.ntmps138
    go_wp2
    go_ret
    exact ⟨rfl, rfl⟩
  · go_enter Tryz.func138, Tryz.ntmps138
    go_wp2
    go_ret
    exact ⟨rfl, rfl⟩

theorem wrap_U {a : Int} (h : U a) : IntKind.u64.wrap a = a := by
  have := h.1
  have := h.2
  rw [IntKind.wrap_u64]
  omega

theorem only_ok (k : Int) (h : N k) (w : World) : Calls Tryz.prog 139 #[.int .i64 k] w fun e w' => e = .returned (.int .u64 (oneI k)) ∧ w = w' := by
  have h0 := h.1
  have h1 := h.2
  have key : IntKind.u64.wrap (2 ^ k.toNat) = oneI k := by
    have : (2 : Int) ^ k.toNat = oneI k := by unfold oneI; simp
    rw [this, wrap_U (oneI_U h)]
  go_enter Tryz.func139, Tryz.ntmps139
  go_wp2
  go_ret
  exact ⟨rfl, rfl⟩

/-- What cutter answers. -/
def cutF (b : Nat) : Value := .func (.func 184) #[] #[.pointer (some ⟨b, 0, none⟩)]
def cutCell (n : Int) : Obj := .cells #[.int .i64 (64 - (mN n : Int))] 3

theorem cutter_any (n : Int) (w : World) : Calls Tryz.prog 176 #[.int .i64 n] w fun e w' => e = .returned (cutF w.heap.size) ∧ w' = w.alloc (cutCell n) := by
  by_cases h0 : n < 0
  · have hm : (mN n : Int) = 0 := by unfold mN; omega
    go_enter Tryz.func176, Tryz.ntmps176
    go_wp2
    go_ret
    exact ⟨rfl, by unfold cutCell; rw [hm]; rfl⟩
  · by_cases h1 : 64 < n
    · have hm : (mN n : Int) = 64 := by unfold mN; omega
      go_enter Tryz.func176, Tryz.ntmps176
      go_wp2
      go_ret
      exact ⟨rfl, by unfold cutCell; rw [hm]; rfl⟩
    · have hm : (mN n : Int) = n := mN_of n (by omega) (by omega)
      go_enter Tryz.func176, Tryz.ntmps176
      go_wp2
      go_ret
      exact ⟨rfl, by unfold cutCell; rw [hm]⟩

theorem cut_key {a n b : Int} (h : U a) (hb : b = 64 - (mN n : Int)) : IntKind.u64.wrap (a * 2 ^ b.toNat) / 2 ^ b.toNat = cutI n a := by
  have h0 := h.1
  obtain ⟨x, rfl⟩ := Int.eq_ofNat_of_zero_le h0
  have hm := mN_le n
  have hbn : b.toNat = 64 - mN n := by omega
  rw [hbn, IntKind.wrap_u64]
  unfold cutI
  rw [Int.toNat_natCast]
  have e1 : ((x : Int) * 2 ^ (64 - mN n)) % 18446744073709551616 / 2 ^ (64 - mN n) = ((x * 2 ^ (64 - mN n) % 18446744073709551616 / 2 ^ (64 - mN n) : Nat) : Int) := by simp
  rw [e1]
  congr 1
  have e2 : 18446744073709551616 = 2 ^ mN n * 2 ^ (64 - mN n) := by
    rw [← Nat.pow_add, show mN n + (64 - mN n) = 64 by omega]
  have hp : 0 < 2 ^ (64 - mN n) := Nat.two_pow_pos _
  rw [e2, Nat.mul_mod_mul_right, Nat.mul_div_cancel _ hp]

theorem cut_any (a n : Int) (h : U a) (w : World) (p : Addr) (hp : w.cell? p = some (.int .i64 (64 - (mN n : Int)))) : Calls Tryz.prog 184 #[.int .u64 a, .pointer (some p)] w fun e w' => e = .returned (.int .u64 (cutI n a)) ∧ K w w' := by
  have u0 := h.1
  have u1 := h.2
  have hm := mN_le n
  generalize hb : 64 - (mN n : Int) = b at hp
  have h0 : 0 ≤ b := by omega
  have h1 : b ≤ 64 := by omega
  have key := cut_key h hb.symm
  clear hm hb
  go_enter Tryz.func184, Tryz.ntmps184
  go_wp2
  go_region
  go_wp2_with fail
  go_ret
  exact ⟨rfl, (K.refl w).drew⟩

theorem tz_key (x a : Nat) (hx : x < 18446744073709551616) (hx0 : x ≠ 0) (hlow : x &&& (18446744073709551616 - x) = a) :
    IntKind.u64.wrap (bits BinOp.and IntKind.u64 (x : Int) (IntKind.u64.wrap (-(x : Int))) * 285870213051353865) / 288230376151711744 = ((a * 285870213051353865 % 18446744073709551616 / 288230376151711744 : Nat) : Int) := by
  have e1 : IntKind.u64.wrap (-(x : Int)) = ((18446744073709551616 - x : Nat) : Int) := by rw [IntKind.wrap_u64]; omega
  rw [e1, bits_and_u64_nat x _ hx (by omega), hlow, IntKind.wrap_u64]
  omega

theorem tz_core (a : Int) (k idx : Nat) (w : World) (ha0 : a ≠ 0)
    (key : IntKind.u64.wrap (bits BinOp.and IntKind.u64 a (IntKind.u64.wrap (-a)) * 285870213051353865) / 288230376151711744 = (idx : Int))
    (hi : idx < 64) (hk : k < 64) (hcell : w.cell? ⟨1, idx, none⟩ = some (.int .u8 k)) :
    Calls Tryz.prog 183 #[.int .u64 a] w fun e w' => e = .returned (.int .i64 k) ∧ w = w' := by
  go_enter Tryz.func183, Tryz.ntmps183
  go_wp2_with (simp only [key])
  go_ret
  exact ⟨rfl, rfl⟩

theorem tz_ok (a : Int) (h : U a) (ha0 : a ≠ 0) (w : World) (T : Tab w) : Calls Tryz.prog 183 #[.int .u64 a] w fun e w' => e = .returned (.int .i64 (Lib.ctz 64 a.toNat)) ∧ w = w' := by
  have h0 := h.1
  have h1 := h.2
  obtain ⟨x, rfl⟩ := Int.eq_ofNat_of_zero_le h0
  rw [Int.toNat_natCast]
  have hx0 : x ≠ 0 := by omega
  have hx : x < 18446744073709551616 := by omega
  obtain ⟨hlow, hk⟩ := Lib.lowest_bit 64 x hx0 hx
  obtain ⟨hi, htab⟩ := Lib.deBruijn64_at _ hk
  have hcell := T _ hi
  rw [htab] at hcell
  exact tz_core x _ _ w ha0 (tz_key x _ hx hx0 hlow) hi hk hcell

end Bt
end Go.Proofs.YtbbjfebdihepnaaGreatDoor

/-
  Walks of math/bits' count of ones and its length.
-/
namespace Go.Proofs.YtbbjfebdihepnaaGreatDoor
open Go.RowKit
namespace Bt

end Bt
end Go.Proofs.YtbbjfebdihepnaaGreatDoor

/-
  What the functions of package bits answer.
-/
namespace Go.Proofs.YtbbjfebdihepnaaGreatDoor
open Go.RowKit
namespace Bt

theorem and_key {a k : Int} (h : U a) (hk : N k) : bits BinOp.and IntKind.u64 a (oneI k) = if a.toNat.testBit k.toNat then oneI k else 0 := by
  have h0 := h.1
  have h1 := h.2
  obtain ⟨x, rfl⟩ := Int.eq_ofNat_of_zero_le h0
  have hp := pow_lt (k := k.toNat) (by have := hk.1; have := hk.2; omega)
  unfold oneI
  rw [bits_and_u64_nat x _ (by omega) hp, and_pow, Int.toNat_natCast]
  split <;> rfl
theorem or_key {a k : Int} (h : U a) (hk : N k) : bits BinOp.or IntKind.u64 a (oneI k) = setI a k := by
  have h0 := h.1
  have h1 := h.2
  obtain ⟨x, rfl⟩ := Int.eq_ofNat_of_zero_le h0
  have hp := pow_lt (k := k.toNat) (by have := hk.1; have := hk.2; omega)
  unfold oneI setI
  rw [bits_or_u64_nat x _ (by omega) hp, Int.toNat_natCast]
theorem andNot_key {a k : Int} (h : U a) (hk : N k) : bits BinOp.andNot IntKind.u64 a (oneI k) = clrI a k := by
  have h0 := h.1
  have h1 := h.2
  obtain ⟨x, rfl⟩ := Int.eq_ofNat_of_zero_le h0
  have hp := pow_lt (k := k.toNat) (by have := hk.1; have := hk.2; omega)
  unfold oneI clrI
  rw [u64_andNot_nat x _ (by omega) hp, Int.toNat_natCast]
theorem oneI_ne (k : Int) : oneI k ≠ 0 := by
  have : 0 < 2 ^ k.toNat := Nat.two_pow_pos _
  unfold oneI
  omega

theorem has_any (a k : Int) (h : U a) (w : World) : Calls Tryz.prog 97 #[.int .u64 a, .int .i64 k] w fun e w' => e = .returned (.bool (hasI a k)) ∧ w = w' := by
  by_cases hk : N k
  · rw [hasI_N hk]
    have c1 := isNumber_in k hk w
    have c2 := only_ok k hk w
    have key := and_key h hk
    have hne : (oneI k != 0) = true := by simp [oneI_ne k]
    cases hb : a.toNat.testBit k.toNat
    all_goals
      rw [hb] at key
      simp only [Bool.false_eq_true, if_false, if_true] at key
      go_enter Tryz.func97, Tryz.ntmps97
      go_wp2_with (first | (go_at_call 138; refine c1.mono ?_; rintro e w' ⟨rfl, rfl⟩) | (go_at_call 139; refine c2.mono ?_; rintro e w' ⟨rfl, rfl⟩))
      go_ret
      exact ⟨rfl, rfl⟩
  · rw [hasI_out hk]
    have c1 := isNumber_out k hk w
    go_enter Tryz.func97, Tryz.ntmps97
    go_wp2_with (go_at_call 138; refine c1.mono ?_; rintro e w' ⟨rfl, rfl⟩)
    go_ret
    exact ⟨rfl, rfl⟩

theorem set_ok (a k : Int) (h : U a) (hk : N k) (w : World) : Calls Tryz.prog 174 #[.int .u64 a, .int .i64 k] w fun e w' => e = .returned (.tuple #[.int .u64 (setI a k), .int .i64 0]) ∧ w = w' := by
  have c1 := isNumber_in k hk w
  have c2 := only_ok k hk w
  have key := or_key h hk
  go_enter Tryz.func174, Tryz.ntmps174
  go_wp2_with (first | (go_at_call 138; refine c1.mono ?_; rintro e w' ⟨rfl, rfl⟩) | (go_at_call 139; refine c2.mono ?_; rintro e w' ⟨rfl, rfl⟩))
  go_ret2
  exact ⟨rfl, rfl⟩

theorem clr_ok (a k : Int) (h : U a) (hk : N k) (w : World) : Calls Tryz.prog 128 #[.int .u64 a, .int .i64 k] w fun e w' => e = .returned (.tuple #[.int .u64 (clrI a k), .int .i64 0]) ∧ w = w' := by
  have c1 := isNumber_in k hk w
  have c2 := only_ok k hk w
  have key := andNot_key h hk
  go_enter Tryz.func128, Tryz.ntmps128
  go_wp2_with (first | (go_at_call 138; refine c1.mono ?_; rintro e w' ⟨rfl, rfl⟩) | (go_at_call 139; refine c2.mono ?_; rintro e w' ⟨rfl, rfl⟩))
  go_ret2
  exact ⟨rfl, rfl⟩

theorem cell_new (w : World) (n : Int) : (w.alloc (cutCell n)).cell? ⟨w.heap.size, 0, none⟩ = some (.int .i64 (64 - (mN n : Int))) := by
  unfold cutCell
  rw [World.cell?_alloc_new]
  rfl

theorem ful_key (n : Int) : cutI n 18446744073709551615 = fulI n := by
  have hm := mN_le n
  unfold cutI fulI
  congr 1
  have e : (18446744073709551615 : Int).toNat = 2 ^ 64 - 1 := rfl
  rw [e]
  apply Nat.eq_of_testBit_eq
  intro j
  rw [Nat.testBit_mod_two_pow, Nat.testBit_two_pow_sub_one, Nat.testBit_two_pow_sub_one]
  by_cases hj : j < mN n
  · simp [hj, show j < 64 by omega]
  · simp [hj]

theorem full_any (n : Int) (w : World) : Calls Tryz.prog 158 #[.int .i64 n] w fun e w' => e = .returned (.int .u64 (fulI n)) ∧ K w w' := by
  have c1 := cutter_any n w
  have c2 := cut_any 18446744073709551615 n (by unfold U; omega) (w.alloc (cutCell n)) ⟨w.heap.size, 0, none⟩ (cell_new w n)
  rw [ful_key] at c2
  have hk : K w (w.alloc (cutCell n)) := (K.refl w).alloc _
  generalize w.alloc (cutCell n) = w1 at c1 c2 hk
  unfold cutF at c1
  go_enter Tryz.func158, Tryz.ntmps158
  go_wp2_with (first | (go_at_call 176; refine c1.mono ?_; rintro e w' ⟨rfl, rfl⟩) | (go_at_call 184; refine c2.mono ?_; rintro e w2 ⟨rfl, hk2⟩))
  go_ret
  exact ⟨rfl, hk.trans hk2⟩

theorem not_key {a : Int} (h : U a) : bits BinOp.xor IntKind.u64 IntKind.u64.max a = notI a := by
  have h0 := h.1
  have h1 := h.2
  obtain ⟨x, rfl⟩ := Int.eq_ofNat_of_zero_le h0
  have e : IntKind.u64.max = ((18446744073709551615 : Nat) : Int) := rfl
  rw [e, u64_xor_nat _ _ (by decide) (by omega)]
  unfold notI
  have h2 : 18446744073709551615 ^^^ x = 18446744073709551615 - x := by
    apply Nat.eq_of_testBit_eq
    intro j
    rw [Nat.testBit_xor]
    by_cases hj : j < 64
    · rw [not_bit (by omega) hj, show 18446744073709551615 = 2 ^ 64 - 1 from rfl, Nat.testBit_two_pow_sub_one]
      simp [hj]
    · have h3 : ∀ y, y < 2 ^ 64 → y.testBit j = false := fun y hy => Nat.testBit_lt_two_pow (Nat.lt_of_lt_of_le hy (Nat.pow_le_pow_right (by decide) (by omega)))
      rw [h3 _ (by decide), h3 x (by omega), h3 (18446744073709551615 - x) (by omega)]
      rfl
  rw [h2]
  omega

theorem free_any (a n : Int) (h : U a) (w : World) (T : Tab w) : Calls Tryz.prog 172 #[.int .u64 a, .int .i64 n] w fun e w' => e = .returned (.int .i64 (freI a n)) ∧ K w w' := by
  have hn := notI_U h
  have c1 := cutter_any n w
  have c2 := cut_any (notI a) n hn (w.alloc (cutCell n)) ⟨w.heap.size, 0, none⟩ (cell_new w n)
  have hk : K w (w.alloc (cutCell n)) := (K.refl w).alloc _
  have hT := T.keep hk
  generalize w.alloc (cutCell n) = w1 at c1 c2 hk hT
  unfold cutF at c1
  by_cases hz : cutI n (notI a) = 0
  · rw [fre_none h hz]
    rw [hz] at c2
    have key := not_key h
    have hs : IntKind.u64.signed = false := rfl
    generalize notI a = z at c2 key
    go_enter Tryz.func172, Tryz.ntmps172
    go_wp2_with (first | (go_at_call 176; refine c1.mono ?_; rintro e w' ⟨rfl, rfl⟩) | (go_at_call 184; (try rw [key]); refine c2.mono ?_; rintro e w2 ⟨rfl, hk2⟩))
    go_ret
    exact ⟨rfl, hk.trans hk2⟩
  · have c3 := fun w2 T2 => tz_ok (cutI n (notI a)) (cutI_U n hn) hz w2 T2
    rw [fre_ctz h hz] at c3
    have key := not_key h
    have hs : IntKind.u64.signed = false := rfl
    generalize cutI n (notI a) = y at c2 c3 hz
    generalize notI a = z at c2 key
    go_enter Tryz.func172, Tryz.ntmps172
    go_wp2_with (first | (go_at_call 176; refine c1.mono ?_; rintro e w' ⟨rfl, rfl⟩) | (go_at_call 184; (try rw [key]); refine c2.mono ?_; rintro e w2 ⟨rfl, hk2⟩) | (go_at_call 183; refine (c3 _ (hT.keep hk2)).mono ?_; rintro e w3 ⟨rfl, rfl⟩))
    go_ret
    exact ⟨rfl, hk.trans hk2⟩

end Bt
end Go.Proofs.YtbbjfebdihepnaaGreatDoor
