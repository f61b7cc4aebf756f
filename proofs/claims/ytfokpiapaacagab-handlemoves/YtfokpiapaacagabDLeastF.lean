/-
  HandleLeast, over the slots alone: slots opened once, some of them closed. No Go text is named here.
-/
import Derived.Test.YtfokpiapaacagabDEndsF
namespace Go.Proofs.Ytfokpiapaacagab
namespace Hd
variable {q z : Int} {L L' : List Sl}

/-- n slots opened once, with the addresses 0, 1, .. -/
def firsts (n : Nat) : List Sl := (List.range n).map fun i : Nat => (⟨true, 1, (i : Int)⟩ : Sl)
theorem firsts_len (n : Nat) : (firsts n).length = n := by simp [firsts]
theorem firsts_succ (n : Nat) : firsts (n + 1) = firsts n ++ [⟨true, 1, (n : Int)⟩] := by simp [firsts, List.range_succ]
theorem firsts_get {n i : Nat} (h : i < n) : (firsts n)[i]? = some ⟨true, 1, (i : Int)⟩ := by simp [firsts, h]
theorem firsts_open {n : Nat} (h : (n : Int) < q) : openL q z (firsts n) n = (nm (n + 1) 1, 0, firsts (n + 1)) := by
  have hf : freeAt z (firsts n) = none := freeAt_none.2 fun s hs => by
    simp only [firsts, List.mem_map] at hs
    obtain ⟨i, _, rfl⟩ := hs
    rfl
  rw [openL_new (by omega) hf (by rw [firsts_len]; exact h), firsts_len, firsts_succ]

/-- Slots of generation 1; those ahead of 'm' are open, and slot m, where there is one, is closed. -/
structure Once1 (L : List Sl) (n m : Nat) : Prop where
  len : L.length = n
  le : m ≤ n
  gen : ∀ (i : Nat) (s : Sl), L[i]? = some s → s.g = 1
  ahead : ∀ (i : Nat) (s : Sl), i < m → L[i]? = some s → s.o = true
  here : ∀ s : Sl, L[m]? = some s → s.o = false

theorem Once1.first (n : Nat) : Once1 (firsts n) n n := by
  refine ⟨firsts_len n, Nat.le_refl _, fun i s hs => ?_, fun i s hi hs => ?_, fun s hs => ?_⟩
  · have hi := (List.getElem?_eq_some_iff.1 hs).1
    rw [firsts_len] at hi
    rw [firsts_get hi] at hs
    cases hs; rfl
  · rw [firsts_get hi] at hs
    cases hs; rfl
  · rw [List.getElem?_eq_none (by rw [firsts_len]; omega)] at hs
    cases hs

/-- Closing the handle of slot c in generation 1. -/
theorem Once1.close {n m c : Nat} (h : Once1 L n m) (hn : n ≤ 30) (hc : c < n) :
    ((closeL L (nm (c + 1) 1)).1 = 0 ∧ Once1 (closeL L (nm (c + 1) 1)).2 n (if c < m then c else m)) ∨ ((closeL L (nm (c + 1) 1)).1 = 7 ∧ (closeL L (nm (c + 1) 1)).2 = L) := by
  obtain ⟨s, hs⟩ : ∃ s, L[c]? = some s := ⟨_, List.getElem?_eq_getElem (by rw [h.len]; exact hc)⟩
  have hg := h.gen c s hs
  have hf : findL L (nm (c + 1) 1) = if s.o = true ∧ s.g = 1 then some c else none := findL_nm hs (by omega)
  by_cases ho : s.o = true
  · rw [if_pos ⟨ho, hg⟩] at hf
    rw [closeL_some hf hs]
    have hcl := (List.getElem?_eq_some_iff.1 hs).1
    refine .inl ⟨rfl, by rw [List.length_set]; exact h.len, by split <;> first | omega | exact h.le, fun i t ht => ?_, fun i t hi ht => ?_, fun t ht => ?_⟩
    · by_cases e : c = i
      · subst e
        rw [List.getElem?_set_self hcl] at ht
        cases ht
        exact hg
      · rw [List.getElem?_set_ne e] at ht
        exact h.gen i t ht
    · have hne : c ≠ i := fun e => by
        subst e
        split at hi
        · omega
        · next hx => exact hx hi
      rw [List.getElem?_set_ne hne] at ht
      exact h.ahead i t (by split at hi <;> omega) ht
    · split at ht
      · rw [List.getElem?_set_self hcl] at ht
        cases ht
        rfl
      · next hx =>
        by_cases e : c = m
        · subst e
          rw [List.getElem?_set_self hcl] at ht
          cases ht
          rfl
        · rw [List.getElem?_set_ne e] at ht
          exact h.here t ht
  · rw [if_neg (fun c => ho c.1)] at hf
    rw [closeL_none hf]
    exact .inr ⟨rfl, rfl⟩

/-- The opening behind it. -/
theorem Once1.full {n : Nat} (h : Once1 L n n) (a : Int) (a0 : 0 ≤ a) : openL n 4294967295 L a = (0, 10, L) := by
  refine openL_full a0 (freeAt_none.2 fun s hs => ?_) (by rw [h.len]; omega)
  obtain ⟨i, hi⟩ := List.getElem?_of_mem hs
  have hl := (List.getElem?_eq_some_iff.1 hi).1
  rw [h.len] at hl
  simp [fr, h.ahead i s hl hi]
theorem Once1.least {n m : Nat} (h : Once1 L n m) (hm : m < n) (a : Int) (a0 : 0 ≤ a) : ∃ L', openL n 4294967295 L a = (nm (m + 1) 2, 0, L') ∧ L'.length = n := by
  obtain ⟨s, hs⟩ : ∃ s, L[m]? = some s := ⟨_, List.getElem?_eq_getElem (by rw [h.len]; exact hm)⟩
  have hf : freeAt 4294967295 L = some m := freeAt_of hs (by simp [fr, h.here s hs, h.gen m s hs]) (fun j t hj ht => by simp [fr, h.ahead j t hj ht])
  rw [openL_free a0 hf hs, h.gen m s hs]
  exact ⟨_, rfl, by rw [List.length_set]; exact h.len⟩

/-- The handles that were told. -/
def hs1 (n : Nat) : List Int := (List.range n).map fun i : Nat => 4294967296 + ((i : Int) + 1)
theorem hs1_len (n : Nat) : (hs1 n).length = n := by simp [hs1]
theorem hs1_succ (n : Nat) : hs1 (n + 1) = hs1 n ++ [4294967296 + ((n : Int) + 1)] := by simp [hs1, List.range_succ]
theorem hs1_get {n i : Nat} (h : i < n) : (hs1 n)[i]? = some (4294967296 + ((i : Int) + 1)) := by simp [hs1, h]
theorem nm_one (n : Int) : nm n 1 = 4294967296 + n := by unfold nm; omega
theorem nm_two (n : Int) : nm n 2 = 8589934592 + n := by unfold nm; omega

end Hd
end Go.Proofs.Ytfokpiapaacagab
