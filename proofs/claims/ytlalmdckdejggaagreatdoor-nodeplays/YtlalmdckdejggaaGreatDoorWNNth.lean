/-
  The walk of nth.
-/
import Derived.Test.YtlalmdckdejggaaGreatDoorU1
namespace Go.Proofs.YtlalmdckdejggaaGreatDoor
open Go.RowKit Go.Maps
namespace Nd
open Hd (encU U64 own_at run_ixh)
open Hp (Kept K No)

/-- The n-th of some, counted round; 0: there are none. -/
def nthH (Hs : List Int) (x : Int) : Int := Hs.getD (x % (Hs.length : Int)).toNat 0

theorem nthH_nil (x : Int) : nthH [] x = 0 := by simp [nthH]
theorem nthH_mem {Hs : List Int} {x : Int} (h : 0 < Hs.length) : nthH Hs x ∈ Hs := by
  have h1 : (x % (Hs.length : Int)).toNat < Hs.length := by
    have := Int.emod_lt_of_pos x (b := (Hs.length : Int)) (by omega)
    have := Int.emod_nonneg x (b := (Hs.length : Int)) (by omega)
    omega
  unfold nthH
  rw [List.getD_eq_getElem?_getD, List.getElem?_eq_getElem h1]
  exact List.getElem_mem h1
theorem nthH_u64 {Hs : List Int} (h : ∀ y ∈ Hs, U64 y) (x : Int) : U64 (nthH Hs x) := by
  by_cases h0 : 0 < Hs.length
  · exact h _ (nthH_mem h0)
  · have : Hs = [] := List.eq_nil_of_length_eq_zero (by omega)
    subst this
    rw [nthH_nil]
    exact ⟨by decide, by decide⟩

theorem rem_cases (x : Int) {N : Nat} (h : 0 < N) : (∃ k : Nat, k < N ∧ x.tmod N = k ∧ x % N = k) ∨ ∃ (r : Int) (k : Nat), k < N ∧ r < 0 ∧ -(N : Int) < r ∧ x.tmod N = r ∧ r + N = k ∧ x % N = k := by
  have h1 : x.tmod N < N := Int.tmod_lt_of_pos x (by omega)
  have h2 : -(N : Int) < x.tmod N := Int.lt_tmod_of_pos x (b := (N : Int)) (by omega)
  have h3 := Int.emod_lt_of_pos x (b := (N : Int)) (by omega)
  have h4 := Int.emod_nonneg x (b := (N : Int)) (by omega)
  have h5 : x = N * x.tdiv N + x.tmod N := (Int.mul_tdiv_add_tmod x N).symm
  have h6 : x = N * (x / N) + x % N := (Int.mul_ediv_add_emod x N).symm
  by_cases h0 : 0 ≤ x.tmod N
  · have e : x % N = x.tmod N := by
      conv => lhs; rw [h5]
      rw [Int.mul_add_emod_self_left]
      exact Int.emod_eq_of_lt h0 h1
    exact .inl ⟨(x.tmod N).toNat, by omega, by omega, by omega⟩
  · have e : x % N = x.tmod N + N := by
      conv => lhs; rw [h5]
      rw [Int.mul_add_emod_self_left, ← Int.add_emod_right]
      exact Int.emod_eq_of_lt (by omega) (by omega)
    exact .inr ⟨x.tmod N, (x.tmod N + N).toNat, by omega, by omega, h2, rfl, by omega, by omega⟩

theorem nth_any {w : World} {B n : Nat} {v1 : Value} {Hs : List Int} (h : w.ownsRow B 45 1 v1 n (Hs.map encU)) (hn : Hs.length = n) (hl : n ≤ 1000) (x : Int) (_ : -9223372036854775808 ≤ x) (_ : x ≤ 9223372036854775807) : Calls Tryz.prog 26 #[v1, .int .i64 x] w fun e w' => e = .returned (.int .u64 (nthH Hs x)) ∧ w = w' := by
  by_cases h0 : n = 0
  · have hnil : Hs = [] := List.eq_nil_of_length_eq_zero (by omega)
    subst hnil
    subst h0
    have hv : v1 = .slice none 0 0 ∨ ∃ g cap, v1 = .slice (some ⟨g, 0, none⟩) 0 cap := by
      rcases h.2 with ⟨e, _⟩ | ⟨g, cap, _, e, _⟩
      · exact .inl e
      · exact .inr ⟨g, cap, e⟩
    have E : Hid (nthH [] x = 0) := nthH_nil x
    rcases hv with rfl | ⟨g, cap, rfl⟩
    · clear h hn
      go_enter Tryz.func26, Tryz.ntmps26
      go_wp2
      go_ret
      exact ⟨by rw [E.out]; rfl, rfl⟩
    · clear h hn
      go_enter Tryz.func26, Tryz.ntmps26
      go_wp2
      go_ret
      exact ⟨by rw [E.out]; rfl, rfl⟩
  · have hp : 0 < n := by omega
    have key : ∀ k : Nat, k < n → x % (n : Int) = k → ∃ g cap, v1 = .slice (some ⟨g, 0, none⟩) n cap ∧ w.cell? ⟨g, k, none⟩ = some (.int .u64 (nthH Hs x)) := fun k hk e => by
      have hx : Hs[k]? = some (nthH Hs x) := by
        unfold nthH
        rw [hn, e, List.getD_eq_getElem?_getD, Int.toNat_natCast, List.getElem?_eq_getElem (by omega)]
        rfl
      obtain ⟨g, cap, h1, _, h3, _⟩ := own_at h (i := k) (x := encU (nthH Hs x)) (by simp [hx])
      exact ⟨g, cap, h1, h3⟩
    rcases rem_cases x hp with ⟨k, hk, hr, he⟩ | ⟨r, k, hk, hr0, hr1, hr, hrk, he⟩
    · obtain ⟨g, cap, rfl, c⟩ := key k hk he
      have ix := run_ixh g n cap k hk
      generalize nthH Hs x = y at *
      clear h key he h0 hn
      go_enter Tryz.func26, Tryz.ntmps26
      go_wp2
      go_ret
      exact ⟨rfl, rfl⟩
    · obtain ⟨g, cap, rfl, c⟩ := key k hk he
      have ix := run_ixh g n cap k hk
      generalize nthH Hs x = y at *
      clear h key he h0 hn
      go_enter Tryz.func26, Tryz.ntmps26
      go_wp2
      go_ret
      exact ⟨rfl, rfl⟩

end Nd
end Go.Proofs.YtlalmdckdejggaaGreatDoor
