/-
  compact: Drop, Put, Run of one of two stores with like records.
-/
import Derived.Test.YtgcnjafoabnhgaaGreatDoorWGAmidM
import Derived.Test.YtgcnjafoabnhgaaGreatDoorWEFullF
namespace Go.Proofs.YtgcnjafoabnhgaaGreatDoor
open Go.RowKit Go.Maps
namespace Co
open Hp (Kept K No Pg BlR Wl liveL granted lt_of_cell Same SameBut allocL dropL findB)
open Hd (U64 findL encU)
open Go.Proofs.YtgcnjafoabnhgaaGreatDoor.So (Ad sp Stp Sw lE)
variable {w0 w w' wb : World} {c : Nat} {A A2 : Ad} {pg pg' : List (Int × Nat)} {W W' W2 W2' : Int → Int} {L L' L2 : List Pg} {v v' u u' : Value} {T T' T2 T2' : List Hd.Sl} {m z : Int}

/-- What Drop turns. -/
def Dk (T : List Hd.Sl) (W : Int → Int) (x : Int) (T' : List Hd.Sl) (W' : Int → Int) : Prop :=
  (findL T x = none ∧ T' = T ∧ W' = W) ∨ ∃ i s, findL T x = some i ∧ T[i]? = some s ∧ T' = T.set i ⟨false, s.g, 0⟩ ∧ Al T' W T' W'

theorem Al.dk (h : Al T W T2 W2) {x : Int} (h1 : Dk T W x T' W') (h2 : Dk T2 W2 x T2' W2') : Al T' W' T2' W2' := by
  have e := h.find x
  rcases h1 with ⟨a1, rfl, rfl⟩ | ⟨i, s, a1, a2, rfl, a3⟩
  · rcases h2 with ⟨_, rfl, rfl⟩ | ⟨j, t, b1, _⟩
    · exact h
    · rw [e, a1] at b1
      cases b1
  · rcases h2 with ⟨b1, _⟩ | ⟨j, t, b1, b2, rfl, b3⟩
    · rw [e, a1] at b1
      cases b1
    · rw [e, a1] at b1
      cases b1
      obtain ⟨t', ht, _, hg, _⟩ := h.2 i s a2
      obtain rfl : t = t' := Option.some.inj (b2.symm.trans ht)
      have hc := h.closed i s.g 0 0
      rw [hg] at b3 ⊢
      exact (a3.symm.trans hc).trans b3

theorem Cn.dropA (h : Cn w0 w A c pg W L v T) (x : Int) (hx : U64 x) : Calls Tryz.prog 8 #[sp A.st, .int .u64 x] w fun e w' => e = .returned (.int .i64 (lE T x)) ∧
    ∃ pg' W' L' T', Aside (Cn w0 w' A c pg' W' L' v T' ∧ Stp A pg pg' v v w w' ∧ granted L' ≤ granted L ∧ Dk T W x T' W') := by
  cases hf : findL T x with
  | none =>
    refine (So.drop_none h.rn.s x hx hf).mono ?_
    rintro e w1 ⟨rfl, k1⟩
    exact ⟨by simp [lE, hf], pg, W, L, T, h.keep k1, Stp.ofK k1, Int.le_refl _, .inl ⟨hf, rfl, rfl⟩⟩
  | some i =>
    obtain ⟨s, hs, so, _⟩ := Hd.findL_some hf
    refine (So.drop_some h.rn.s h.rn.k.size x hx hf hs).mono ?_
    rintro e w1 ⟨rfl, pg1, W1, p, k, hb, sb, sw1, st1⟩
    refine ⟨by simp [lE, hf], pg1, W1, _, _, h.call sw1 st1, st1, So.drop_granted h.rn.s.b.wl (Hp.findB_some hb).1 k, .inr ⟨i, s, hf, hs, rfl, rfl, fun j t hj => ⟨t, hj, rfl, rfl, fun to' => ?_⟩⟩⟩
    have hlt := (List.getElem?_eq_some_iff.1 hs).1
    by_cases e : j = i
    · subst e
      rw [List.getElem?_set_self hlt] at hj
      cases hj
      cases to'
    · rw [List.getElem?_set_ne (Ne.symm e)] at hj
      obtain ⟨_, n0, n1, hbr⟩ := h.rn.s.r.nm j t hj to'
      have hg := So.rm_ge (x := 2 + W (t.a + 1)) ⟨by omega, by omega⟩
      have hne : t.a ≠ s.a := fun e2 => e (h.rn.s.r.inj h.rn.s.b.tl hj hs to' so e2)
      refine ⟨So.SameBut.at hb sb hbr hne (i := 1) (by omega) (by omega), fun n n0 n1 => ?_⟩
      rw [Int.add_assoc]
      exact So.SameBut.at hb sb hbr hne (i := 2 + n) (by omega) (by omega)

theorem Cn.putA (h : Cn w0 w A c pg W L v T) (x k y : Int) (hx : U64 x) (hy : Sl.WordOk y) : Calls Tryz.prog 9 #[sp A.st, .int .u64 x, .int .i64 k, .int .u64 y] w fun e w' => e = .returned (.int .i64 (So.wE T W x k)) ∧ Aside (Cn w0 w' A c pg (So.pW T W x k y) L v T ∧ Stp A pg pg v v w w') := by
  refine (So.put_any h.rn.s h.rn.k.size x k y hx hy).mono ?_
  rintro e w1 ⟨rfl, sw1, st1⟩
  exact ⟨rfl, h.call sw1 st1, st1⟩

/-- Run keeps the records alike. -/
theorem Cn.runA (h : Cn w0 w A c pg W L v T) {bu : Int} (b0 : 0 ≤ bu) (b1 : bu ≤ 9223372036854775807) : Calls Tryz.prog 10 #[cp c, .int .i64 bu] w fun e w' => ∃ n b, e = .returned (.tuple #[.int .i64 n, .bool b, .int .i64 0]) ∧
    ∃ pg' W' L' v' T', Aside (Cn w0 w' A c pg' W' L' v' T' ∧ Stp A pg pg' v v' w w' ∧ granted L' ≤ granted L ∧ Al T W T' W') := by
  refine (h.run (bu := bu) b0 b1).mono ?_
  rintro e w1 ⟨rfl, pg1, W1, v1, h1, wk, st⟩
  exact ⟨_, _, rfl, pg1, W1, _, v1, _, h1, st, fold_granted (pass_start h.rn.s.b.wl h.rn.s.r), Al.wk h.rn.s.r wk⟩

end Co
end Go.Proofs.YtgcnjafoabnhgaaGreatDoor
