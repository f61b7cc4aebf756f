/-
  A run of free pages is there wherever few pages are granted: a plain count.
-/
import Derived.Test.YtlpdgomoepinjaaDoorSGap
namespace Go.Proofs.YtlpdgomoepinjaaDoor
namespace Sl

theorem not_all (n : Nat) : ∀ L : List Nat, L.length = n → ∃ i, i ≤ n ∧ i ∉ L := by
  induction n with
  | zero =>
    intro L h
    obtain rfl := List.eq_nil_of_length_eq_zero h
    exact ⟨0, Nat.le_refl _, by simp⟩
  | succ n ih =>
    intro L h
    by_cases hm : (n + 1) ∈ L
    · obtain ⟨i, hi, hn⟩ := ih (L.erase (n + 1)) (by rw [List.length_erase_of_mem hm]; omega)
      refine ⟨i, by omega, fun hi2 => hn ?_⟩
      exact (List.mem_erase_of_ne (by omega)).2 hi2
    · exact ⟨n + 1, Nat.le_refl _, hm⟩

/-- Of pg.length + 1 runs of n pages, one behind the other, one is free. -/
theorem some_run (pg : List (Int × Nat)) (n : Int) (hn : 1 ≤ n) : ∃ i : Nat, i ≤ pg.length ∧ freeRun pg (n * i) n := by
  obtain ⟨i, hi, hni⟩ := not_all pg.length (pg.map fun p => (p.1 / n).toNat) (by simp)
  refine ⟨i, hi, fun j h1 h2 => blk_none_iff.2 fun p hp e => hni ?_⟩
  refine List.mem_map.2 ⟨p, hp, ?_⟩
  have h3 : j / n = i := by
    rw [show j = (j - n * i) + i * n from by rw [Int.mul_comm]; omega, Int.add_mul_ediv_right _ _ (by omega)]
    rw [Int.ediv_eq_zero_of_lt (by omega) (by omega)]
    omega
  rw [e, h3]
  simp

theorem not_nowhere {pg : List (Int × Nat)} {n : Int} (hn : 1 ≤ n) (hl : n * ((pg.length : Int) + 1) ≤ 1048576) : ¬ Nowhere pg n := fun h => by
  obtain ⟨i, hi, hf⟩ := some_run pg n hn
  have h1 : n * (i : Int) ≤ n * (pg.length : Int) := Int.mul_le_mul_of_nonneg_left (by omega) (by omega)
  have h2 : n * ((pg.length : Int) + 1) = n * pg.length + n := by rw [Int.mul_add, Int.mul_one]
  exact h (n * i) (Int.mul_nonneg (by omega) (by omega)) (by omega) hf

end Sl
end Go.Proofs.YtlpdgomoepinjaaDoor
