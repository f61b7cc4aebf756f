/-
  What slides keep of what is held.
-/
import Derived.Test.YtlalmdckdejggaaGreatDoorL1
import Derived.Test.YtlalmdckdejggaaGreatDoorG1
namespace Go.Proofs.YtlalmdckdejggaaGreatDoor
namespace Nd
open Hp (Pg)
open Hd (findL)
open Co (Wk)
open Go.Proofs.YtlalmdckdejggaaGreatDoor.Bb (Ho rwI_some wdA_eq)
open Go.Proofs.YtlalmdckdejggaaGreatDoor.So (Rec)
variable {L L' : List Pg} {T T' : List Hd.Sl} {W W' : Int → Int} {x y : Int} {ws : List Int}

theorem wk_slot (h : Wk T W T' W') {i : Nat} {s : Hd.Sl} (hi : T[i]? = some s) : ∃ t, T'[i]? = some t ∧ t.o = s.o ∧ t.g = s.g := by
  obtain ⟨h1, h2⟩ := h.2 i s hi
  cases so : s.o with
  | false => exact ⟨s, h1 so, so, rfl⟩
  | true =>
    obtain ⟨b, hb, _⟩ := h2 so
    exact ⟨_, hb, rfl, rfl⟩
theorem wk_find (h : Wk T W T' W') (x : Int) : findL T' x = findL T x := by
  unfold findL
  split
  · rfl
  · cases hi : T[(x % 4294967296 - 1).toNat]? with
    | none =>
      have : T'[(x % 4294967296 - 1).toNat]? = none := by
        rw [List.getElem?_eq_none_iff] at hi ⊢
        rw [h.1]
        exact hi
      rw [this]
    | some s =>
      obtain ⟨t, ht, ho, hg⟩ := wk_slot h hi
      rw [ht]
      simp only [ho, hg]
theorem Ho.wk (r : Rec L W T) (h : Wk T W T' W') {y : Int} {ws : List Int} (ho : Ho T W y ws) : Ho T' W' y ws := by
  obtain ⟨h1, h2⟩ := ho
  obtain ⟨j, hj⟩ := Option.isSome_iff_exists.1 h1
  obtain ⟨s, hs, so, _, _⟩ := Hd.findL_some hj
  obtain ⟨_, n0, n1, _⟩ := r.nm j s hs so
  obtain ⟨b, hb, hw⟩ := (h.2 j s hs).2 so
  refine ⟨by rw [wk_find h]; exact h1, ?_⟩
  rw [rwI_some (by rw [wk_find h]; exact hj) hb, ← h2, rwI_some hj hs]
  refine wdA_eq (hw 1 (by omega) (by omega)) fun k k0 k1 => ?_
  have := hw (2 + k) (by omega) (by omega)
  rw [Int.add_assoc, Int.add_assoc]
  exact this

end Nd
end Go.Proofs.YtlalmdckdejggaaGreatDoor
