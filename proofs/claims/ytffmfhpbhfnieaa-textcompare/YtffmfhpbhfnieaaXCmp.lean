/-
  The order of texts, with no program: it is total, turns where texts are turned, and goes on; and texts of one length rise as their words do.
-/
import Derived.Test.YtffmfhpbhfnieaaXPlain
namespace Go.Proofs.Ytffmfhpbhfnieaa
namespace Tx
open Go.Lib (compareBytes)

theorem cmp_cons (a b : UInt8) (x y : List UInt8) : compareBytes (a :: x) (b :: y) = if a.toNat < b.toNat then -1 else if b.toNat < a.toNat then 1 else compareBytes x y := by
  rw [compareBytes]
  simp only [UInt8.lt_iff_toNat_lt]
theorem cmp_rng : ∀ a b : List UInt8, -1 ≤ compareBytes a b ∧ compareBytes a b ≤ 1
  | [], [] => by simp [compareBytes]
  | [], _ :: _ => by simp [compareBytes]
  | _ :: _, [] => by simp [compareBytes]
  | a :: x, b :: y => by
    have := cmp_rng x y
    rw [cmp_cons]
    split
    · omega
    · split <;> omega
theorem cmp_self : ∀ a : List UInt8, compareBytes a a = 0
  | [] => rfl
  | a :: x => by rw [cmp_cons, if_neg (by omega), if_neg (by omega), cmp_self x]
theorem cmp_zero : ∀ {a b : List UInt8}, compareBytes a b = 0 → a = b
  | [], [], _ => rfl
  | [], _ :: _, h => by simp [compareBytes] at h
  | _ :: _, [], h => by simp [compareBytes] at h
  | a :: x, b :: y, h => by
    rw [cmp_cons] at h
    split at h
    · omega
    · split at h
      · omega
      · have e : a = b := UInt8.toNat_inj.1 (by omega)
        rw [e, cmp_zero h]
theorem cmp_swap : ∀ a b : List UInt8, compareBytes b a = -compareBytes a b
  | [], [] => rfl
  | [], _ :: _ => rfl
  | _ :: _, [] => rfl
  | a :: x, b :: y => by
    rw [cmp_cons, cmp_cons, cmp_swap x y]
    split
    · rw [if_neg (by omega)]
    · split <;> rfl
theorem cmp_app : ∀ a c : List UInt8, compareBytes a (a ++ c) ≤ 0
  | [], [] => by simp [compareBytes]
  | [], _ :: _ => by simp [compareBytes]
  | a :: x, c => by
    rw [List.cons_append, cmp_cons, if_neg (by omega), if_neg (by omega)]
    exact cmp_app x c
theorem cmp_trans : ∀ a b c : List UInt8, compareBytes a b ≤ 0 → compareBytes b c ≤ 0 → compareBytes a c ≤ 0 ∧ (compareBytes a b < 0 → compareBytes a c < 0)
  | [], [], [], _, _ => by simp [compareBytes]
  | [], [], _ :: _, _, _ => by simp [compareBytes]
  | [], _ :: _, [], _, h => by simp [compareBytes] at h
  | [], _ :: _, _ :: _, _, _ => by simp [compareBytes]
  | _ :: _, [], _, h, _ => by simp [compareBytes] at h
  | _ :: _, _ :: _, [], _, h => by simp [compareBytes] at h
  | a :: x, b :: y, c :: z, h1, h2 => by
    have ih := cmp_trans x y z
    rw [cmp_cons] at h1 h2 ⊢
    rw [cmp_cons]
    by_cases hab : a.toNat < b.toNat
    · by_cases hbc : b.toNat < c.toNat
      · rw [if_pos (show a.toNat < c.toNat by omega)]
        omega
      · rw [if_neg hbc] at h2
        by_cases hcb : c.toNat < b.toNat
        · rw [if_pos hcb] at h2
          omega
        · rw [if_pos (show a.toNat < c.toNat by omega)]
          omega
    · rw [if_neg hab] at h1 ⊢
      by_cases hba : b.toNat < a.toNat
      · rw [if_pos hba] at h1
        omega
      · rw [if_neg hba] at h1 ⊢
        by_cases hbc : b.toNat < c.toNat
        · rw [if_pos (show a.toNat < c.toNat by omega)]
          omega
        · rw [if_neg hbc] at h2
          by_cases hcb : c.toNat < b.toNat
          · rw [if_pos hcb] at h2
            omega
          · rw [if_neg hcb] at h2
            rw [if_neg (show ¬ a.toNat < c.toNat by omega), if_neg (show ¬ c.toNat < a.toNat by omega)]
            exact ih h1 h2

/-- Two texts that are the same up to k, and not at k. -/
theorem cmp_at : ∀ {a b : List UInt8} (k : Nat), k < a.length → k < b.length → (∀ j, j < k → bt a j = bt b j) → compareBytes a b = if bt a k < bt b k then -1 else if bt b k < bt a k then 1 else compareBytes (a.drop (k + 1)) (b.drop (k + 1))
  | [], _, k, h, _, _ => by simp at h
  | _ :: _, [], k, _, h, _ => by simp at h
  | a :: x, b :: y, 0, _, _, _ => by
    rw [cmp_cons]
    simp [bt]
  | a :: x, b :: y, k + 1, h1, h2, h => by
    have h0 := h 0 (by omega)
    simp only [bt, List.getD_cons_zero] at h0
    rw [cmp_cons, if_neg (by omega), if_neg (by omega), cmp_at (a := x) (b := y) k (by simpa using h1) (by simpa using h2) (fun j hj => by
      have := h (j + 1) (by omega)
      simpa [bt] using this)]
    simp [bt]

/-- Texts of one length, and their words. -/
theorem wv_cmp {a b : List UInt8} (hl : a.length = b.length) (i : Nat) (h : ∀ j, j < 8 * i → bt a j = bt b j) (hne : wv a i ≠ wv b i) : compareBytes a b = if wv a i < wv b i then -1 else 1 := by
  have ha := fun t => bt_rng a (8 * i + t)
  have hb := fun t => bt_rng b (8 * i + t)
  obtain ⟨t, ht8, hlt, hdf⟩ : ∃ t, t < 8 ∧ (∀ s, s < t → bt a (8 * i + s) = bt b (8 * i + s)) ∧ bt a (8 * i + t) ≠ bt b (8 * i + t) := by
    apply Classical.byContradiction
    intro hno
    have all : ∀ n, n ≤ 8 → ∀ s, s < n → bt a (8 * i + s) = bt b (8 * i + s) := by
      intro n
      induction n with
      | zero => intro _ s hs; omega
      | succ n ih =>
        intro hn s hs
        by_cases h1 : s < n
        · exact ih (by omega) s h1
        · obtain rfl : s = n := by omega
          apply Classical.byContradiction
          intro h2
          exact hno ⟨s, by omega, ih (by omega), h2⟩
    have e := all 8 (Nat.le_refl _)
    apply hne
    have e0 := e 0 (by omega)
    rw [Nat.add_zero (8 * i)] at e0
    rw [wv_eq, wv_eq, e0, e 1 (by omega), e 2 (by omega), e 3 (by omega), e 4 (by omega), e 5 (by omega), e 6 (by omega), e 7 (by omega)]
  have hk : 8 * i + t < a.length := by
    apply Nat.lt_of_not_le
    intro hle
    exact hdf (by rw [bt_out hle, bt_out (by omega)])
  have hpre : ∀ j, j < 8 * i + t → bt a j = bt b j := fun j hj => by
    by_cases h1 : j < 8 * i
    · exact h j h1
    · have := hlt (j - 8 * i) (by omega)
      rwa [show 8 * i + (j - 8 * i) = j by omega] at this
  rw [cmp_at (8 * i + t) hk (by omega) hpre]
  have key : (wv a i < wv b i) ↔ bt a (8 * i + t) < bt b (8 * i + t) := by
    rw [wv_eq, wv_eq]
    have a0 := ha 0; have a1 := ha 1; have a2 := ha 2; have a3 := ha 3; have a4 := ha 4; have a5 := ha 5; have a6 := ha 6; have a7 := ha 7
    have b0 := hb 0; have b1 := hb 1; have b2 := hb 2; have b3 := hb 3; have b4 := hb 4; have b5 := hb 5; have b6 := hb 6; have b7 := hb 7
    have e0 := hlt 0; have e1 := hlt 1; have e2 := hlt 2; have e3 := hlt 3; have e4 := hlt 4; have e5 := hlt 5; have e6 := hlt 6
    rw [Nat.add_zero (8 * i)] at a0 b0 e0
    clear ha hb hlt hpre h hne
    rcases eight ht8 with rfl | rfl | rfl | rfl | rfl | rfl | rfl | rfl
    · rw [Nat.add_zero (8 * i)] at hdf ⊢
      omega
    all_goals omega
  by_cases hw : wv a i < wv b i
  · rw [if_pos hw, if_pos (key.1 hw)]
  · have hn : ¬ bt a (8 * i + t) < bt b (8 * i + t) := fun e => hw (key.2 e)
    rw [if_neg hw, if_neg hn, if_pos (by omega)]

theorem take_getD {X Y : List Int} {i : Nat} (h : X.take i = Y.take i) {j : Nat} (hj : j < i) : X.getD j 0 = Y.getD j 0 := by
  have e : (X.take i)[j]? = (Y.take i)[j]? := by rw [h]
  rw [List.getElem?_take, List.getElem?_take, if_pos hj, if_pos hj] at e
  rw [List.getD_eq_getElem?_getD, List.getD_eq_getElem?_getD, e]
/-- The first word that is another one tells which text is ahead. -/
theorem wds_cmp {a b : List UInt8} (hl : a.length = b.length) {i : Nat} (hi : i < (wds a).length) (h : (wds a).take i = (wds b).take i) (hne : (wds a).getD i 0 ≠ (wds b).getD i 0) : compareBytes a b = if (wds a).getD i 0 < (wds b).getD i 0 then -1 else 1 := by
  rw [wds_len] at hi
  obtain ⟨j, rfl⟩ : ∃ j, i = 1 + j := by
    refine ⟨i - 1, ?_⟩
    apply Classical.byContradiction
    intro h0
    obtain rfl : i = 0 := by omega
    apply hne
    rw [wds_zero, wds_zero, hl]
  have hj : j < (a.length + 7) / 8 := by omega
  rw [wds_getD a j hj, wds_getD b j (by omega)] at hne ⊢
  refine wv_cmp hl j (fun k hk => ?_) hne
  have e := take_getD h (j := 1 + k / 8) (by omega)
  rw [wds_getD a _ (by omega), wds_getD b _ (by omega)] at e
  rw [← byte_of a k, ← byte_of b k, e]
theorem wds_inj {a b : List UInt8} (h : wds a = wds b) : a = b := by rw [← ofT_wds a, h, ofT_wds]

end Tx
end Go.Proofs.Ytffmfhpbhfnieaa
