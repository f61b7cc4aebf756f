/-
  A store that was made since: Rn; and the statements' fixed example.
-/
import Derived.Test.YtbbjfebdihepnaaGreatDoorE3
namespace Go.Proofs.YtbbjfebdihepnaaGreatDoor
open Go.RowKit Go.Maps
attribute [local go_sem ↓] Go.wp_at_zero Go.wp_at_succ
namespace So
open Hp (Kept K No Pg BlR Bl Wl Same SameBut allocL slideL dropL findB roomI)
open Hd (U64 findL)
variable {w0 w w' : World} {A : Ad} {pg pg' : List (Int × Nat)} {W : Int → Int} {L L' : List Pg} {v v' : Value} {T T' : List Hd.Sl}

/-- A store that was made since w0: nothing that was there has turned. -/
structure Rn (w0 w : World) (A : Ad) (pg : List (Int × Nat)) (W : Int → Int) (L : List Pg) (v : Value) (T : List Hd.Sl) : Prop where
  s : Sw w w0.heap.size A pg W L v T
  k : K w0 w
theorem Rn.keep (h : Rn w0 w A pg W L v T) (k : K w w') : Rn w0 w' A pg W L v T := ⟨h.s.keep k, h.k.trans k⟩
theorem Rn.kst (h : Rn w0 w A pg W L v T) (s : Stp A pg pg' v v' w w') : K w0 w' :=
  ⟨s.k.os.trans h.k.os, s.k.tape.trans h.k.tape, s.k.output.trans h.k.output, Nat.le_trans h.k.size s.k.size, fun j hj hn => (s.k.same j (Nat.lt_of_lt_of_le hj h.k.size) (fun hf => by have := h.s.b.flo hf; omega)).trans (h.k.same j hj hn)⟩

/-- New, at numbers that are right. -/
theorem Rn.new (q m z : Int) (w : World) (hT : Bt.Tab w) (q0 : 0 ≤ q) (q1 : q ≤ 262144) (m0 : 1 ≤ m) (m1 : m ≤ 65536) (z0 : 1 ≤ z) (z1 : z ≤ 4294967295) :
    Calls Tryz.prog 28 #[.int .i64 q, .int .i64 m, .int .u32 z] w fun e w' => ∃ A v, e = .returned (.tuple #[sp A.st, .int .i64 0]) ∧ Aside (Rn w w' A [] (fun _ => 0) [] v [] ∧ A.q = q ∧ A.m = m ∧ A.z = z ∧ w.heap.size ≤ A.st ∧ w.heap.size ≤ A.bh) ∧ K w w' := by
  refine (new_ok q m z w hT q0 q1 m0 m1 z0 z1).mono ?_
  rintro e w' ⟨A, v, rfl, h1, h2, h3⟩
  exact ⟨A, v, rfl, ⟨⟨h1, h2⟩, h3⟩, h2⟩

theorem Rn.make (h : Rn w0 w A pg W L v T) (n : Int) (n0 : 0 ≤ n) (n1 : n ≤ 3998) {a x : Int} (ea : allocL A.q L (2 + n) = (a, 0, L')) (eo : Hd.openL A.m A.z T a = (x, 0, T')) :
    Calls Tryz.prog 58 #[sp A.st, .int .i64 n] w fun e w' => e = .returned (.tuple #[.int .u64 x, .int .i64 0]) ∧ ∃ pg' W' v', Rn w0 w' A pg' W' L' v' T' ∧ Same L W W' ∧ W' a = x ∧ W' (a + 1) = n ∧ (∀ i, 0 ≤ i → i < n → W' (a + 2 + i) = 0) ∧ Stp A pg pg' v v' w w' := by
  have a0 : 0 ≤ a := by
    by_cases h0 : 0 ≤ a
    · exact h0
    · rw [Hd.openL_neg (by omega)] at eo
      simp at eo
  have hfu : fullB A.m A.z T = false := by
    rcases full_open (T := T) a0 eo with ⟨h1, _⟩ | ⟨_, h1, _⟩
    · exact h1
    · cases h1
  refine (make_ok h.s h.k.size n n0 n1 hfu ea).mono ?_
  rintro e w1 ⟨x1, T1, eo1, rfl, pg1, W1, v1, sw1, rest⟩
  rw [eo] at eo1
  obtain ⟨rfl, e2⟩ := Prod.mk.inj eo1
  obtain ⟨_, rfl⟩ := Prod.mk.inj e2
  exact ⟨rfl, pg1, W1, v1, ⟨sw1, h.kst rest.2.2.2.2⟩, rest⟩

theorem Rn.drop (h : Rn w0 w A pg W L v T) (x : Int) (hx : U64 x) {i : Nat} {s : Hd.Sl} (hf : findL T x = some i) (hs : T[i]? = some s) {p : Pg} {k : Int} (hb : findB L s.a = some (p, k)) (hd : dropL L p k = L') (ht : T.set i ⟨false, s.g, 0⟩ = T') :
    Calls Tryz.prog 42 #[sp A.st, .int .u64 x] w fun e w' => e = .returned (.int .i64 0) ∧ ∃ pg' W', Rn w0 w' A pg' W' L' v T' ∧ SameBut L p k W W' ∧ Stp A pg pg' v v w w' := by
  refine (drop_some h.s h.k.size x hx hf hs).mono ?_
  rintro e w1 ⟨rfl, pg1, W1, p1, k1, hb1, sb, sw1, st⟩
  rw [hb] at hb1
  obtain ⟨rfl, rfl⟩ := Prod.mk.inj (Option.some.inj hb1)
  rw [hd, ht] at sw1
  exact ⟨rfl, pg1, W1, ⟨sw1, h.kst st⟩, sb, st⟩

theorem Rn.put (h : Rn w0 w A pg W L v T) (x k y er : Int) (hx : U64 x) (hy : Sl.WordOk y) (he : wE T W x k = er) :
    Calls Tryz.prog 59 #[sp A.st, .int .u64 x, .int .i64 k, .int .u64 y] w fun e w' => e = .returned (.int .i64 er) ∧ Rn w0 w' A pg (pW T W x k y) L v T ∧ Stp A pg pg v v w w' := by
  subst he
  refine (put_any h.s h.k.size x k y hx hy).mono ?_
  rintro e w1 ⟨rfl, sw1, st⟩
  exact ⟨rfl, ⟨sw1, h.kst st⟩, st⟩

end So
end Go.Proofs.YtbbjfebdihepnaaGreatDoor
