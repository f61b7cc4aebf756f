/-
  HeapLeast on entries: what its two last blocks are.
-/
import Derived.Test.YtlpdgomoepinjabDoorHLeastF
namespace Go.Proofs.YtlpdgomoepinjabDoor
open Go.RowKit
namespace Hp
variable {L : List Pg}

theorem runC_len (c : Int) : ∀ n, (runC c n).2.length = n
  | 0 => rfl
  | n + 1 => by simp [runC, runC_len c n]

theorem allC_at {c : Int} : ∀ (k n : Nat), allC c k (runC c n).1 (runC c n).2 n = true → ∀ j, j < k → okC c (n + j) = true ∧ ∀ f, f ≤ n + j → freeC c (runC c (n + j + 1)).1 (runC c (n + j + 1)).2 (n + j + 1) f = true
  | 0, _, _, j, hj => by omega
  | k + 1, n, h, j, hj => by
    unfold allC at h
    simp only [Bool.and_eq_true] at h
    obtain ⟨h1, h2, h3⟩ := h
    cases j with
    | zero =>
      refine ⟨h1, fun f hf => ?_⟩
      exact List.all_eq_true.1 h2 f (List.mem_range.2 (by omega))
    | succ j =>
      have := allC_at k (n + 1) h3 j (by omega)
      rw [show n + 1 + j = n + (j + 1) by omega] at this
      exact this

theorem runs {c : Int} (h0 : 0 ≤ c) (h1 : c ≤ 7) {n : Nat} (hn : n < 40) : allocC (runC c n).1 c = ((allocC (runC c n).1 c).1, 0, (runC c (n + 1)).1) := by
  have h2 := (allC_at 40 0 (all_c h0 h1) n hn).1
  simp only [Nat.zero_add, okC] at h2
  have h3 : (allocC (runC c n).1 c).2.1 = 0 := by simpa using h2
  rw [← h3]
  rfl

theorem freeB_none {c d : Int} (hc : ∀ r ∈ L, r.cls = c) (hd : c ≠ d) : freeB L d = none := by
  unfold freeB
  rw [List.findSome?_eq_none_iff]
  intro r hr
  unfold freeOf
  rw [if_neg]
  rw [hc r hr]
  simp [hd]
theorem freeB_ins {c : Int} {p : Pg} (h : freeOf c p = none) : ∀ L, freeB (insL p L) c = freeB L c
  | [] => by simp [insL, freeB, h]
  | r :: L => by
    unfold insL
    split
    · simp [freeB, h]
    · have := freeB_ins h L
      unfold freeB at *
      simp only [List.findSome?_cons, this]
theorem granted_insL (p : Pg) : ∀ L, granted (insL p L) = granted L + p.span
  | [] => by simp [insL, granted]
  | r :: L => by
    unfold insL
    split
    · simp [granted]; omega
    · have := granted_insL p L
      simp [granted] at this ⊢
      omega
theorem addr_smallPg {d : Int} (n : Int) (h0 : 0 ≤ d) (h1 : d ≤ 7) : addrI (smallPg n d) 0 = n * 64 + 2 := by
  have hc : d = 0 ∨ d = 1 ∨ d = 2 ∨ d = 3 ∨ d = 4 ∨ d = 5 ∨ d = 6 ∨ d = 7 := by omega
  rcases hc with rfl | rfl | rfl | rfl | rfl | rfl | rfl | rfl <;> rfl

/-- What is freed, and the two blocks behind it. -/
theorem after {c d : Int} (c0 : 0 ≤ c) (c1 : c ≤ 7) (d0 : 0 ≤ d) (d1 : d ≤ 7) (hcd : c ≠ d) {n f : Nat} (hn : n < 40) (hf : f < n + 1) {a : Int} (ha : (runC c (n + 1)).2[f]? = some a) :
    In64 a ∧ ∃ p s, findB (runC c (n + 1)).1 a = some (p, s) ∧ ∃ x y L2 L3, allocC (dropL (runC c (n + 1)).1 p s) d = (x, 0, L2) ∧ allocC L2 c = (y, 0, L3) ∧ (n = 0 → (x == y) = false) ∧ (n ≠ 0 → f ≠ n → (x == a) = false ∧ y = a) := by
  have h2 := (allC_at 40 0 (all_c c0 c1) n hn).2 f (by omega)
  simp only [Nat.zero_add] at h2
  unfold freeC at h2
  rw [List.getD_eq_getElem?_getD, ha, Option.getD_some] at h2
  cases hfd : findB (runC c (n + 1)).1 a with
  | none => rw [hfd] at h2; cases h2
  | some ps =>
    obtain ⟨p, s⟩ := ps
    rw [hfd] at h2
    simp only [Bool.and_eq_true, decide_eq_true_eq] at h2
    obtain ⟨⟨⟨⟨a0, a1⟩, hal⟩, hg⟩, hor⟩ := h2
    refine ⟨⟨by omega, by omega⟩, p, s, rfl, ?_⟩
    generalize dropL (runC c (n + 1)).1 p s = D at *
    have hcl : ∀ r ∈ D, r.cls = c := fun r hr => by simpa using List.all_eq_true.1 hal r hr
    have fd := freeB_none hcl hcd
    have fo : freeOf c (smallPg (fit 1 0 D) d) = none := by
      unfold freeOf
      rw [if_neg]
      simp [smallPg, Ne.symm hcd]
    have fi := freeB_ins fo D
    have gi := granted_insL (smallPg (fit 1 0 D) d) D
    have gs : (smallPg (fit 1 0 D) d).span = 1 := rfl
    have e1 : allocC D d = (fit 1 0 D * 64 + 2, 0, insL (smallPg (fit 1 0 D) d) D) := by
      unfold allocC
      rw [fd]
      simp only []
      rw [if_pos (by omega), addr_smallPg _ d0 d1]
    cases hfc : freeB D c with
    | some ps2 =>
      obtain ⟨p2, s2⟩ := ps2
      rw [hfc] at fi hor
      have e2 : allocC (insL (smallPg (fit 1 0 D) d) D) c = (addrI p2 s2, 0, updL (insL (smallPg (fit 1 0 D) d) D) p2.n (withT p2 (Bt.setI p2.taken s2))) := by
        unfold allocC
        rw [fi]
      refine ⟨_, _, _, _, e1, e2, fun hn0 => ?_, fun hn0 hfn => ?_⟩
      · subst hn0
        have h : D = [] := by simpa using hor
        subst h
        cases hfc
      · rw [if_neg (by simp; omega)] at hor
        simp only [Bool.or_eq_true, Bool.and_eq_true, beq_iff_eq, Bool.not_eq_true', beq_eq_false_iff_ne] at hor
        rcases hor with h | ⟨h, h3⟩
        · omega
        · exact ⟨by simpa using h3, h⟩
    | none =>
      rw [hfc] at fi hor
      have e2 : allocC (insL (smallPg (fit 1 0 D) d) D) c = (addrI (smallPg (fit 1 0 (insL (smallPg (fit 1 0 D) d) D)) c) 0, 0, insL (smallPg (fit 1 0 (insL (smallPg (fit 1 0 D) d) D)) c) (insL (smallPg (fit 1 0 D) d) D)) := by
        unfold allocC
        rw [fi]
        simp only []
        rw [if_pos (by omega)]
      refine ⟨_, _, _, _, e1, e2, fun hn0 => ?_, fun hn0 hfn => ?_⟩
      · subst hn0
        have h : D = [] := by simpa using hor
        subst h
        have e3 : addrI (smallPg (fit 1 0 (insL (smallPg (fit 1 0 []) d) [])) c) 0 = 66 := addr_smallPg _ c0 c1
        rw [e3]
        rfl
      · rw [if_neg (by simp; omega)] at hor
        simp only [Bool.or_eq_true, beq_iff_eq] at hor
        rcases hor with h | h
        · omega
        · cases h

theorem afterM {c d : Int} (c0 : 0 ≤ c) (c1 : c ≤ 7) (d0 : 0 ≤ d) (d1 : d ≤ 7) (hcd : c ≠ d) {M f : Nat} (hM0 : 1 ≤ M) (hM : M ≤ 40) (hf : f < M) {a : Int} (ha : (runC c M).2[f]? = some a) :
    In64 a ∧ ∃ p s, findB (runC c M).1 a = some (p, s) ∧ ∃ x y L2 L3, allocC (dropL (runC c M).1 p s) d = (x, 0, L2) ∧ allocC L2 c = (y, 0, L3) ∧ (M = 1 → (x == y) = false) ∧ (M ≠ 1 → f + 1 ≠ M → (x == a) = false ∧ y = a) := by
  obtain ⟨n, rfl⟩ : ∃ n, M = n + 1 := ⟨M - 1, by omega⟩
  obtain ⟨h1, p, s, h2, x, y, L2, L3, h3, h4, h5, h6⟩ := after c0 c1 d0 d1 hcd (n := n) (by omega) hf ha
  exact ⟨h1, p, s, h2, x, y, L2, L3, h3, h4, fun h => h5 (by omega), fun h g => h6 (by omega) (by omega)⟩

end Hp
end Go.Proofs.YtlpdgomoepinjabDoor
