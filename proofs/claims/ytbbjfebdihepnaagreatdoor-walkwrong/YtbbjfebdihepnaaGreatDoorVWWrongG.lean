/-
  A box of before is turned beside a store; places that are counted round.
-/
import Derived.Test.YtbbjfebdihepnaaGreatDoorVWWrongF
import Derived.Test.YtbbjfebdihepnaaGreatDoorVWLists
import Derived.Test.YtbbjfebdihepnaaGreatDoorVWFreeF
namespace Go.Proofs.YtbbjfebdihepnaaGreatDoor
open Go.RowKit Go.Maps
namespace Wa
open Hp (Kept K No Pg)
open Hd (U64 findL)
open Nd (Nv encU)
open Go.Proofs.YtbbjfebdihepnaaGreatDoor.So (Ad Sb Sw Rec Rn Stp sp foot)
variable {w0 w w' u : World} {A : Ad} {W : Int → Int} {T : List Hd.Sl} {c : Nat} {t : Tr}

theorem Gs.turn0 (h : Gs w0 w A c T W) {b : Nat} (k : Kept (fun j => j = b) w w') (hb : b < w0.heap.size) {cs : Array Value} (hx : w.heap[b]? = some (.cells cs 54)) (ht : b ≠ 1) (hu : u.heap.size ≤ b) (ku : K u w0) : ∃ w0', K u w0' ∧ Gs w0' w' A c T W := by
  obtain ⟨pg, L, v, rn, r⟩ := h
  have hsz : w0.heap.size ≤ w'.heap.size := Nat.le_trans rn.k.size k.size
  obtain ⟨w0', hw⟩ : ∃ w0' : World, w0' = { w' with heap := w'.heap.extract 0 w0.heap.size } := ⟨_, rfl⟩
  have hs0 : w0'.heap.size = w0.heap.size := by rw [hw]; simp; omega
  have hg : ∀ j, j < w0.heap.size → w0'.heap[j]? = w'.heap[j]? := fun j hj => by
    rw [hw]
    simp only [Array.getElem?_extract, Nat.zero_add, Nat.sub_zero]
    rw [if_pos (by omega)]
  have kw : K w0' w' := ⟨by rw [hw], by rw [hw], by rw [hw], by omega, fun j hj _ => (hg j (by omega)).symm⟩
  have ho : w0'.os = w'.os ∧ w0'.tape = w'.tape ∧ w0'.output = w'.output := by rw [hw]; exact ⟨rfl, rfl, rfl⟩
  refine ⟨w0', ⟨ho.1.trans (k.os.trans (rn.k.os.trans ku.os)), ho.2.1.trans (k.tape.trans (rn.k.tape.trans ku.tape)), ho.2.2.trans (k.output.trans (rn.k.output.trans ku.output)), by have := ku.size; omega, fun j hj hn => ?_⟩, pg, L, v, ⟨⟨?_, rn.s.r⟩, kw⟩, r⟩
  · have h1 := ku.size
    have h2 := rn.k.size
    rw [hg j (by omega), k.same j (by omega) (fun e => by have e : j = b := e; omega), rn.k.same j (by omega) hn, ku.same j hj hn]
  · rw [hs0]
    refine rn.s.b.kept k fun j hj => ?_
    have hj : j = b := hj
    subst hj
    refine ⟨fun hf => by have := rn.s.b.flo hf; omega, fun e => ?_, ht, fun e => ?_⟩
    · have h1 := rn.s.b.hp.hw.hd
      rw [← e] at h1
      exact absurd (kind_ne hx h1) (by decide)
    · have h1 := rn.s.b.hd
      rw [← e] at h1
      exact absurd (kind_ne hx h1) (by decide)

theorem idx_of (x : Int) {n : Nat} (h : 0 < n) : ∃ (r : Int) (k : Nat), x.tmod (n : Int) = r ∧ -(n : Int) < r ∧ r < n ∧ (r + (n : Int)).tmod (n : Int) = k ∧ k < n := by
  have h1 : x.tmod n < n := Int.tmod_lt_of_pos x (by omega)
  have h2 : -(n : Int) < x.tmod n := Int.lt_tmod_of_pos x (b := (n : Int)) (by omega)
  obtain ⟨r, hr⟩ : ∃ r, x.tmod (n : Int) = r := ⟨_, rfl⟩
  rw [hr] at h1 h2
  have h3 : (r + (n : Int)).tmod n < n := Int.tmod_lt_of_pos _ (by omega)
  have h4 : 0 ≤ (r + (n : Int)).tmod n := Int.tmod_nonneg _ (by omega)
  exact ⟨r, ((r + (n : Int)).tmod n).toNat, hr, h2, h1, by omega, by omega⟩
theorem idx_two (x : Int) (hx : 0 ≤ x) {n : Nat} (h : 0 < n) : ∃ (m k : Nat), x.tmod 64 = m ∧ m < 64 ∧ (m : Int).tmod (n : Int) = k ∧ k < n := by
  have h1 : x.tmod 64 < 64 := Int.tmod_lt_of_pos x (by omega)
  have h2 : 0 ≤ x.tmod 64 := Int.tmod_nonneg _ hx
  obtain ⟨m, hm⟩ : ∃ m : Nat, x.tmod 64 = m := ⟨(x.tmod 64).toNat, by omega⟩
  have h3 : (m : Int).tmod n < n := Int.tmod_lt_of_pos _ (by omega)
  have h4 : 0 ≤ (m : Int).tmod n := Int.tmod_nonneg _ (by omega)
  exact ⟨m, ((m : Int).tmod n).toNat, hm, by omega, by omega, by omega⟩

/-- A place's node in a tree. -/
theorem Tv.node {P : List Pr} (h : Tv w0 w A c T W t P) {i : Nat} (hi : i < P.length) : ∃ n : Nv, (vw T W).nd (hdI t.items i) = some n ∧ U64 (hdI t.items i) ∧ n.Ok := by
  have hl : i < t.items.length := by rw [h.len]; exact hi
  have e := List.getElem?_eq_getElem hl
  have hm := lay_mem h.rt.lay _ (List.getElem_mem hl)
  rw [hdI_at e]
  obtain ⟨pg, L, v, rn, r⟩ := h.gs
  exact ⟨_, hm.nd, (nd_some hm.nd).1, nd_ok rn.s hm.nd⟩

end Wa
end Go.Proofs.YtbbjfebdihepnaaGreatDoor
