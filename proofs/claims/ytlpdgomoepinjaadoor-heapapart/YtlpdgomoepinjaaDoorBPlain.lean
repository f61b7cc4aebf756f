/-
  Small sets as the bits of a word, with no program: what Has, Set, Clear, Free, Last, Count and Full tell, number by number; and what follows.
-/
import Derived.Lib.TrailingZeros
import Derived.Lib.BitFns
namespace Go.Proofs.YtlpdgomoepinjaaDoor
namespace Bt

/-- A word. -/
def U (a : Int) : Prop := 0 ≤ a ∧ a ≤ 18446744073709551615
/-- A number that may be in a set. -/
def N (k : Int) : Prop := 0 ≤ k ∧ k ≤ 63

def hasI (a k : Int) : Bool := decide (0 ≤ k) && decide (k ≤ 63) && a.toNat.testBit k.toNat
def oneI (k : Int) : Int := ((2 ^ k.toNat : Nat) : Int)
def setI (a k : Int) : Int := ((a.toNat ||| 2 ^ k.toNat : Nat) : Int)
def clrI (a k : Int) : Int := ((a.toNat &&& (18446744073709551615 - 2 ^ k.toNat) : Nat) : Int)
def notI (a : Int) : Int := 18446744073709551615 - a
/-- How many numbers are asked for. -/
def mN (n : Int) : Nat := (min (max n 0) 64).toNat
def cutI (n a : Int) : Int := ((a.toNat % 2 ^ mN n : Nat) : Int)

def cnt (x : Nat) : Nat → Nat
  | 0 => 0
  | m + 1 => cnt x m + (if x.testBit m then 1 else 0)
def lst (x : Nat) : Nat → Int
  | 0 => -1
  | m + 1 => if x.testBit m then (m : Int) else lst x m
def fre (x : Nat) : Nat → Int
  | 0 => -1
  | m + 1 => if fre x m = -1 then (if x.testBit m then -1 else (m : Int)) else fre x m

def cntI (a n : Int) : Int := (cnt a.toNat (mN n) : Int)
def lstI (a n : Int) : Int := lst a.toNat (mN n)
def freI (a n : Int) : Int := fre a.toNat (mN n)
def fulI (n : Int) : Int := ((2 ^ mN n - 1 : Nat) : Int)

theorem two64 : (18446744073709551616 : Nat) = 2 ^ 64 := by decide
theorem mN_le (n : Int) : mN n ≤ 64 := by unfold mN; omega
theorem mN_of (n : Int) (h0 : 0 ≤ n) (h1 : n ≤ 64) : (mN n : Int) = n := by unfold mN; omega

theorem pow_lt {k : Nat} (h : k < 64) : 2 ^ k < 18446744073709551616 := by
  rw [two64]
  exact Nat.pow_lt_pow_right (by decide) h

theorem oneI_U {k : Int} (h : N k) : U (oneI k) := by
  have h1 := pow_lt (k := k.toNat) (by have := h.1; have := h.2; omega)
  unfold U oneI
  generalize 2 ^ k.toNat = p at h1 ⊢
  omega
theorem setI_U {a k : Int} (ha : U a) (h : N k) : U (setI a k) := by
  have h1 := pow_lt (k := k.toNat) (by have := h.1; have := h.2; omega)
  have h2 : a.toNat ||| 2 ^ k.toNat < 2 ^ 64 := Nat.or_lt_two_pow (by have := ha.1; have := ha.2; omega) (by omega)
  unfold U setI
  omega
theorem clrI_U {a k : Int} (ha : U a) : U (clrI a k) := by
  have h1 : a.toNat &&& (18446744073709551615 - 2 ^ k.toNat) ≤ a.toNat := Nat.and_le_left
  have := ha.1; have := ha.2
  unfold U clrI
  omega
theorem notI_U {a : Int} (ha : U a) : U (notI a) := by
  have := ha.1; have := ha.2
  unfold U notI
  omega
theorem cutI_U {a : Int} (n : Int) (ha : U a) : U (cutI n a) := by
  have h1 : a.toNat % 2 ^ mN n ≤ a.toNat := Nat.mod_le _ _
  have := ha.1; have := ha.2
  unfold U cutI
  omega
theorem fulI_U (n : Int) : U (fulI n) := by
  have h1 : 2 ^ mN n ≤ 2 ^ 64 := Nat.pow_le_pow_right (by decide) (mN_le n)
  have h2 : 0 < 2 ^ mN n := Nat.two_pow_pos _
  unfold U fulI
  omega

theorem not_bit {x : Nat} (h : x < 18446744073709551616) {j : Nat} (hj : j < 64) : (18446744073709551615 - x).testBit j = !x.testBit j := by
  have := Nat.testBit_two_pow_sub_succ (x := x) (n := 64) (by omega) j
  rw [show 18446744073709551615 - x = 2 ^ 64 - (x + 1) by omega, this]
  simp [hj]

theorem notI_bit {a : Int} (ha : U a) {j : Nat} (hj : j < 64) : (notI a).toNat.testBit j = !a.toNat.testBit j := by
  have := ha.1; have := ha.2
  rw [show (notI a).toNat = 18446744073709551615 - a.toNat by unfold notI; omega]
  exact not_bit (by omega) hj

theorem set_bit (a k : Int) (j : Nat) : (setI a k).toNat.testBit j = (a.toNat.testBit j || decide (k.toNat = j)) := by
  unfold setI
  rw [Int.toNat_natCast, Nat.testBit_or, Nat.testBit_two_pow]

theorem clr_bit {a k : Int} (h : N k) {j : Nat} (hj : j < 64) : (clrI a k).toNat.testBit j = (a.toNat.testBit j && !decide (k.toNat = j)) := by
  unfold clrI
  rw [Int.toNat_natCast, Nat.testBit_and, not_bit (pow_lt (by have := h.1; have := h.2; omega)) hj, Nat.testBit_two_pow]

/-- Two words with the same bits are one. -/
theorem ext {a b : Int} (ha : U a) (hb : U b) (h : ∀ j, j < 64 → a.toNat.testBit j = b.toNat.testBit j) : a = b := by
  have h1 : a.toNat = b.toNat := by
    apply Nat.eq_of_testBit_eq
    intro j
    by_cases hj : j < 64
    · exact h j hj
    · have e1 : a.toNat < 2 ^ j := Nat.lt_of_lt_of_le (show a.toNat < 2 ^ 64 by have := ha.1; have := ha.2; omega) (Nat.pow_le_pow_right (by decide) (by omega))
      have e2 : b.toNat < 2 ^ j := Nat.lt_of_lt_of_le (show b.toNat < 2 ^ 64 by have := hb.1; have := hb.2; omega) (Nat.pow_le_pow_right (by decide) (by omega))
      rw [Nat.testBit_lt_two_pow e1, Nat.testBit_lt_two_pow e2]
  have := ha.1; have := hb.1
  omega

theorem bit_div (x k : Nat) : x.testBit k = decide (x / 2 ^ k % 2 = 1) := by
  rw [Nat.testBit_eq_decide_div_mod_eq]

theorem and_pow (x k : Nat) : x &&& 2 ^ k = if x.testBit k then 2 ^ k else 0 := by
  apply Nat.eq_of_testBit_eq
  intro j
  rw [Nat.testBit_and, Nat.testBit_two_pow]
  by_cases h : k = j
  · subst h
    cases x.testBit k <;> simp
  · cases x.testBit k <;> simp [h]

/-- A number more, by a sum. -/
theorem add_pow (x k : Nat) (h : x.testBit k = false) : x + 2 ^ k = x ||| 2 ^ k := by
  rw [bit_div] at h
  have h2 : x / 2 ^ k % 2 = 0 := by
    have := of_decide_eq_false h
    omega
  have hp : 0 < 2 ^ k := Nat.two_pow_pos k
  have hlo : x % 2 ^ k < 2 ^ k := Nat.mod_lt _ hp
  have e1 : x = 2 ^ k * (x / 2 ^ k) + x % 2 ^ k := (Nat.div_add_mod x (2 ^ k)).symm
  have e2 : x + 2 ^ k = 2 ^ k * (x / 2 ^ k + 1) + x % 2 ^ k := by
    rw [Nat.mul_add]
    omega
  rw [e2]
  apply Nat.eq_of_testBit_eq
  intro j
  rw [Nat.testBit_or, Nat.testBit_two_pow, Nat.testBit_two_pow_mul_add _ hlo]
  conv => rhs; rw [e1, Nat.testBit_two_pow_mul_add _ hlo]
  by_cases hj : j < k
  · have : k ≠ j := by omega
    simp [hj, this]
  · simp only [hj, if_false]
    by_cases he : k = j
    · subst he
      simp only [Nat.sub_self, Nat.testBit_zero, decide_true, Bool.or_true]
      exact decide_eq_true (by omega)
    · obtain ⟨d, rfl⟩ : ∃ d, j = k + (d + 1) := ⟨j - k - 1, by omega⟩
      rw [show k + (d + 1) - k = d + 1 by omega, Nat.testBit_succ, Nat.testBit_succ, show (x / 2 ^ k + 1) / 2 = x / 2 ^ k / 2 by omega]
      simp

theorem add_one {a k : Int} (ha : U a) (h : a.toNat.testBit k.toNat = false) : a + oneI k = setI a k := by
  unfold oneI setI
  rw [← add_pow _ _ h]
  have := ha.1
  omega

theorem sub_one {a k : Int} (ha : U a) (hk : N k) (h : a.toNat.testBit k.toNat = true) : a - oneI k = clrI a k := by
  have h1 : (clrI a k).toNat.testBit k.toNat = false := by
    rw [clr_bit hk (by have := hk.1; have := hk.2; omega)]
    simp
  have h2 := add_one (clrI_U (k := k) ha) h1
  have h3 : setI (clrI a k) k = a := by
    apply ext (setI_U (clrI_U ha) hk) ha
    intro j hj
    rw [set_bit, clr_bit hk hj]
    by_cases he : k.toNat = j
    · subst he; simp [h]
    · simp [he]
  rw [h3] at h2
  omega

theorem set_has {a k : Int} (h : hasI a k = true) (ha : U a) : setI a k = a := by
  simp only [hasI, Bool.and_eq_true, decide_eq_true_eq] at h
  apply ext (setI_U ha ⟨h.1.1, h.1.2⟩) ha
  intro j hj
  rw [set_bit]
  by_cases he : k.toNat = j
  · subst he; simp [h.2]
  · simp [he]

theorem clr_hasnt {a k : Int} (hk : N k) (h : hasI a k = false) (ha : U a) : clrI a k = a := by
  have hb : a.toNat.testBit k.toNat = false := by
    have h1 := hk.1
    have h2 := hk.2
    simpa [hasI, h1, h2] using h
  apply ext (clrI_U ha) ha
  intro j hj
  rw [clr_bit hk hj]
  by_cases he : k.toNat = j
  · subst he; simp [hb]
  · simp [he]

theorem hasI_N {a k : Int} (hk : N k) : hasI a k = a.toNat.testBit k.toNat := by
  have h1 := hk.1
  have h2 := hk.2
  simp [hasI, h1, h2]
theorem hasI_out {a k : Int} (hk : ¬ N k) : hasI a k = false := by
  unfold N at hk
  by_cases h1 : 0 ≤ k
  · have h2 : ¬ k ≤ 63 := fun h => hk ⟨h1, h⟩
    simp [hasI, h2]
  · simp [hasI, h1]

/-! What Free, Last and Count tell -/

theorem fre_all {x : Nat} : ∀ {m : Nat}, (∀ j, j < m → x.testBit j = true) → fre x m = -1
  | 0, _ => rfl
  | m + 1, h => by
    unfold fre
    rw [fre_all (m := m) (fun j hj => h j (by omega)), if_pos rfl, h m (by omega)]
    simp
theorem fre_at {x k : Nat} (hk : x.testBit k = false) (h : ∀ j, j < k → x.testBit j = true) : ∀ {m : Nat}, k < m → fre x m = (k : Int)
  | 0, hm => by omega
  | m + 1, hm => by
    unfold fre
    by_cases he : k = m
    · subst he
      rw [fre_all h, if_pos rfl, hk]
      simp
    · rw [fre_at hk h (show k < m by omega), if_neg (by omega)]
theorem fre_cases (x : Nat) : ∀ m : Nat, (fre x m = -1 ∧ ∀ j, j < m → x.testBit j = true) ∨ (∃ k : Nat, k < m ∧ fre x m = (k : Int) ∧ x.testBit k = false ∧ ∀ j, j < k → x.testBit j = true)
  | 0 => Or.inl ⟨rfl, fun j hj => by omega⟩
  | m + 1 => by
    rcases fre_cases x m with ⟨h1, h2⟩ | ⟨k, h1, h2, h3, h4⟩
    · cases hb : x.testBit m
      · exact Or.inr ⟨m, by omega, fre_at hb h2 (by omega), hb, h2⟩
      · have hall : ∀ j, j < m + 1 → x.testBit j = true := fun j hj => by
          by_cases he : j = m
          · rw [he]; exact hb
          · exact h2 j (by omega)
        exact Or.inl ⟨fre_all hall, hall⟩
    · exact Or.inr ⟨k, by omega, fre_at h3 h4 (by omega), h3, h4⟩

theorem lst_none {x : Nat} : ∀ {m : Nat}, (∀ j, j < m → x.testBit j = false) → lst x m = -1
  | 0, _ => rfl
  | m + 1, h => by
    unfold lst
    rw [h m (by omega)]
    simp only [Bool.false_eq_true, if_false]
    exact lst_none (fun j hj => h j (by omega))
theorem lst_at {x k : Nat} (hk : x.testBit k = true) : ∀ {m : Nat}, k < m → (∀ j, k < j → j < m → x.testBit j = false) → lst x m = (k : Int)
  | 0, hm, _ => by omega
  | m + 1, hm, h => by
    unfold lst
    by_cases he : k = m
    · subst he; simp [hk]
    · rw [h m (by omega) (by omega)]
      simp only [Bool.false_eq_true, if_false]
      exact lst_at hk (by omega) (fun j h1 h2 => h j h1 (by omega))
theorem lst_cases (x : Nat) : ∀ m : Nat, (lst x m = -1 ∧ ∀ j, j < m → x.testBit j = false) ∨ (∃ k : Nat, k < m ∧ lst x m = (k : Int) ∧ x.testBit k = true ∧ ∀ j, k < j → j < m → x.testBit j = false)
  | 0 => Or.inl ⟨rfl, fun j hj => by omega⟩
  | m + 1 => by
    cases hb : x.testBit m
    · rcases lst_cases x m with ⟨h1, h2⟩ | ⟨k, h1, h2, h3, h4⟩
      · have hall : ∀ j, j < m + 1 → x.testBit j = false := fun j hj => by
          by_cases he : j = m
          · rw [he]; exact hb
          · exact h2 j (by omega)
        exact Or.inl ⟨lst_none hall, hall⟩
      · have hab : ∀ j, k < j → j < m + 1 → x.testBit j = false := fun j h5 h6 => by
          by_cases he : j = m
          · rw [he]; exact hb
          · exact h4 j h5 (by omega)
        exact Or.inr ⟨k, by omega, lst_at h3 (by omega) hab, h3, hab⟩
    · exact Or.inr ⟨m, by omega, lst_at hb (by omega) (fun j h1 h2 => by omega), hb, fun j h1 h2 => by omega⟩

theorem cnt_le (x : Nat) : ∀ m, cnt x m ≤ m
  | 0 => Nat.le_refl _
  | m + 1 => by
    have := cnt_le x m
    unfold cnt
    split <;> omega
theorem cnt_congr {x y : Nat} : ∀ {m : Nat}, (∀ j, j < m → x.testBit j = y.testBit j) → cnt x m = cnt y m
  | 0, _ => rfl
  | m + 1, h => by
    unfold cnt
    rw [cnt_congr (m := m) (fun j hj => h j (by omega)), h m (by omega)]
theorem cnt_not {x y : Nat} : ∀ {m : Nat}, (∀ j, j < m → x.testBit j = !y.testBit j) → cnt x m + cnt y m = m
  | 0, _ => rfl
  | m + 1, h => by
    have h1 := cnt_not (m := m) (fun j hj => h j (by omega))
    have h2 := h m (by omega)
    unfold cnt
    rw [h2]
    cases y.testBit m <;> simp <;> omega
theorem cnt_zero {x : Nat} : ∀ {m : Nat}, cnt x m = 0 ↔ ∀ j, j < m → x.testBit j = false
  | 0 => ⟨fun _ j hj => by omega, fun _ => rfl⟩
  | m + 1 => by
    have ih := cnt_zero (x := x) (m := m)
    unfold cnt
    constructor
    · intro h j hj
      have h1 : cnt x m = 0 := by omega
      have h2 : (if x.testBit m then 1 else 0) = 0 := by omega
      by_cases he : j = m
      · rw [he]
        cases hb : x.testBit m
        · rfl
        · simp [hb] at h2
      · exact ih.1 h1 j (by omega)
    · intro h
      rw [ih.2 (fun j hj => h j (by omega)), h m (by omega)]
      rfl
theorem cnt_full {x : Nat} : ∀ {m : Nat}, cnt x m = m ↔ ∀ j, j < m → x.testBit j = true
  | 0 => ⟨fun _ j hj => by omega, fun _ => rfl⟩
  | m + 1 => by
    have ih := cnt_full (x := x) (m := m)
    have hle := cnt_le x m
    unfold cnt
    constructor
    · intro h j hj
      by_cases he : j = m
      · rw [he]
        cases hb : x.testBit m
        · simp [hb] at h; omega
        · rfl
      · refine ih.1 ?_ j (by omega)
        split at h <;> omega
    · intro h
      rw [ih.2 (fun j hj => h j (by omega)), h m (by omega)]
      rfl
/-- One number more, or less. -/
theorem cnt_put {x y k : Nat} (hx : x.testBit k = false) (hy : y.testBit k = true) : ∀ {m : Nat}, k < m → (∀ j, j < m → j ≠ k → y.testBit j = x.testBit j) → cnt y m = cnt x m + 1
  | 0, hm, _ => by omega
  | m + 1, hm, h => by
    unfold cnt
    by_cases he : k = m
    · subst he
      rw [cnt_congr (fun j hj => h j (by omega) (by omega)), hx, hy]
      simp
    · rw [cnt_put hx hy (show k < m by omega) (fun j h1 h2 => h j (by omega) h2), h m (by omega) (fun e => he e.symm)]
      omega

end Bt
end Go.Proofs.YtlpdgomoepinjaaDoor
