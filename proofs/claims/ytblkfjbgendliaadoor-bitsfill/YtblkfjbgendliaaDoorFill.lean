/-
  What a step of the statement BitsFill does, with no program: the least free number is put, the last one is taken away.
-/
import Derived.Test.YtblkfjbgendliaaDoorLaw1
namespace Go.Proofs.YtblkfjbgendliaaDoor
namespace Bt

theorem cnt_low {x i : Nat} (lo : ∀ j, j < i → x.testBit j = true) : ∀ {m : Nat}, i ≤ m → (∀ j, i ≤ j → j < m → x.testBit j = false) → cnt x m = i
  | 0, h, _ => by
    have : i = 0 := by omega
    subst this
    rfl
  | m + 1, h, hi => by
    by_cases he : i = m + 1
    · subst he
      exact cnt_full.2 lo
    · rw [cnt_succ, cnt_low lo (show i ≤ m by omega) (fun j h1 h2 => hi j h1 (by omega)), hi m (by omega) (by omega)]
      rfl

theorem fill_up {x n i l : Int} (h : U x) (h0 : 0 ≤ n) (h1 : n ≤ 64) (hc : cntI x n = i) (hin : i < n) (hl : ∀ j : Nat, (j : Int) ≤ l → x.toNat.testBit j = true) :
    ∃ k v : Int, freI x n = k ∧ setV x k = v ∧ errI k = 0 ∧ l < k ∧ hasI x k = false ∧ U v ∧ cntI v n = i + 1 ∧ ∀ j : Nat, (j : Int) ≤ k → v.toNat.testBit j = true := by
  have hm := mN_of n h0 h1
  have ec : cntI x n = (cnt x.toNat (mN n) : Nat) := rfl
  rcases fre_cases x.toNat (mN n) with ⟨e1, e2⟩ | ⟨k, k1, k2, k3, k4⟩
  · exfalso
    have := cnt_full.2 e2
    omega
  · have hk : N (k : Int) := ⟨by omega, by omega⟩
    have ev : setV x (k : Int) = setI x (k : Int) := setV_in _ hk
    refine ⟨(k : Int), setI x (k : Int), k2, ev, errI_in hk, ?_, ?_, setI_U h hk, ?_, fun j hj => ?_⟩
    · apply Int.not_le.1
      intro h2
      rw [hl k h2] at k3
      cases k3
    · rw [hasI_N hk, Int.toNat_natCast]
      exact k3
    · have e3 : cntI (setI x (k : Int)) n = (cnt (setI x (k : Int)).toNat (mN n) : Nat) := rfl
      have e4 : cnt (setI x (k : Int)).toNat (mN n) = cnt x.toNat (mN n) + 1 := cnt_put k3 (by rw [set_bit]; simp) k1 fun j h2 h3 => by
        rw [set_bit, Int.toNat_natCast]
        rw [decide_eq_false (show ¬ k = j by omega)]
        simp
      omega
    · rw [set_bit, Int.toNat_natCast]
      by_cases he : k = j
      · simp [he]
      · rw [k4 j (by omega)]
        rfl

theorem fill_full {x n : Int} (h : U x) (h0 : 0 ≤ n) (h1 : n ≤ 64) (hc : cntI x n = n) :
    freI x n = -1 ∧ bits BinOp.and IntKind.u64 x (fulI n) = fulI n ∧ ∀ j : Nat, (j : Int) < n → x.toNat.testBit j = true := by
  have hm := mN_of n h0 h1
  have ec : cntI x n = (cnt x.toNat (mN n) : Nat) := rfl
  have all := cnt_full.1 (show cnt x.toNat (mN n) = mN n by omega)
  refine ⟨fre_all all, ?_, fun j hj => all j (by omega)⟩
  have u0 := h.1
  have u1 := h.2
  obtain ⟨y, rfl⟩ := Int.eq_ofNat_of_zero_le u0
  rw [Int.toNat_natCast] at all
  have f0 := (fulI_U n).1
  have f1 := (fulI_U n).2
  have ef : fulI n = ((2 ^ mN n - 1 : Nat) : Int) := rfl
  rw [ef] at f0 f1 ⊢
  rw [bits_and_u64_nat y _ (by omega) (by omega)]
  congr 1
  apply Nat.eq_of_testBit_eq
  intro j
  rw [Nat.testBit_and, Nat.testBit_two_pow_sub_one]
  by_cases hj : j < mN n
  · simp [hj, all j hj]
  · simp [hj]

theorem fill_down {x n i : Int} (h : U x) (h1 : n ≤ 64) (hi0 : 0 < i) (hin : i ≤ n) (lo : ∀ j : Nat, (j : Int) < i → x.toNat.testBit j = true) (hi : ∀ j : Nat, i ≤ (j : Int) → (j : Int) < n → x.toNat.testBit j = false) :
    ∃ v : Int, lstI x n = i - 1 ∧ clrV x (i - 1) = v ∧ errI (i - 1) = 0 ∧ hasI v (i - 1) = false ∧ U v ∧ cntI v n = i - 1 ∧ (∀ j : Nat, (j : Int) < i - 1 → v.toNat.testBit j = true) ∧ (∀ j : Nat, i - 1 ≤ (j : Int) → (j : Int) < n → v.toNat.testBit j = false) := by
  have hm := mN_of n (by omega) h1
  have hk : N (i - 1) := ⟨by omega, by omega⟩
  have ev : clrV x (i - 1) = clrI x (i - 1) := clrV_in _ hk
  have el : lstI x n = lst x.toNat (mN n) := rfl
  have e1 : lst x.toNat (mN n) = ((i - 1).toNat : Int) := lst_at (lo _ (by omega)) (by omega) fun j h2 h3 => hi j (by omega) (by omega)
  have b1 : ∀ j : Nat, (j : Int) < i - 1 → (clrI x (i - 1)).toNat.testBit j = true := fun j hj => by
    rw [clr_bit hk (by omega), lo j (by omega)]
    simp
    omega
  have b2 : ∀ j : Nat, i - 1 ≤ (j : Int) → (j : Int) < n → (clrI x (i - 1)).toNat.testBit j = false := fun j h2 h3 => by
    rw [clr_bit hk (by omega)]
    by_cases he : (i - 1).toNat = j
    · simp [he]
    · rw [hi j (by omega) h3]
      rfl
  refine ⟨clrI x (i - 1), by omega, ev, errI_in hk, ?_, clrI_U h, ?_, b1, b2⟩
  · rw [hasI_N hk]
    exact b2 _ (by omega) (by omega)
  · have e3 : cntI (clrI x (i - 1)) n = (cnt (clrI x (i - 1)).toNat (mN n) : Nat) := rfl
    have e4 : cnt (clrI x (i - 1)).toNat (mN n) = (i - 1).toNat := cnt_low (fun j hj => b1 j (by omega)) (by omega) fun j h2 h3 => b2 j (by omega) (by omega)
    omega

theorem fill_none {x n : Int} (h1 : n ≤ 64) (hi : ∀ j : Nat, 0 ≤ (j : Int) → (j : Int) < n → x.toNat.testBit j = false) : lstI x n = -1 :=
  lst_none fun j hj => hi j (by omega) (by have := mN_le n; unfold mN at hj; omega)

end Bt
end Go.Proofs.YtblkfjbgendliaaDoor
