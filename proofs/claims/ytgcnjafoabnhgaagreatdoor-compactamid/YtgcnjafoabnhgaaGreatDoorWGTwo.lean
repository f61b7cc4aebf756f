/-
  Two stores beside each other, each with its compactor.
-/
import Derived.Test.YtgcnjafoabnhgaaGreatDoorWGFillW
namespace Go.Proofs.YtgcnjafoabnhgaaGreatDoor
open Go.RowKit Go.Maps
namespace Co
open Hp (Kept K No Pg Wl lt_of_cell granted liveL)
open Go.Proofs.YtgcnjafoabnhgaaGreatDoor.So (Ad Sw Rec sp Stp Bx foot Opv)
variable {w0 w w' : World} {c c2 : Nat} {A A2 : Ad} {pg pg' pg2 : List (Int × Nat)} {W W' W2 : Int → Int} {L L' L2 : List Pg} {v v' v2 : Value} {T T' T2 : List Hd.Sl} {b1 b2 : Int}

structure Tw (w0 w : World) (A : Ad) (c : Nat) (pg : List (Int × Nat)) (W : Int → Int) (L : List Pg) (v : Value) (T : List Hd.Sl) (A2 : Ad) (c2 : Nat) (pg2 : List (Int × Nat)) (W2 : Int → Int) (L2 : List Pg) (v2 : Value) (T2 : List Hd.Sl) : Prop where
  n1 : Cn w0 w A c pg W L v T
  n2 : Cn w0 w A2 c2 pg2 W2 L2 v2 T2
  a1 : ∀ k, foot A pg v k → ¬ foot A2 pg2 v2 k ∧ k ≠ A2.bh ∧ k ≠ A2.st ∧ k ≠ c2
  a2 : ∀ k, foot A2 pg2 v2 k → k ≠ A.bh ∧ k ≠ A.st ∧ k ≠ c
  z0 : 0 < w0.heap.size

theorem Tw.swap (h : Tw w0 w A c pg W L v T A2 c2 pg2 W2 L2 v2 T2) : Tw w0 w A2 c2 pg2 W2 L2 v2 T2 A c pg W L v T :=
  ⟨h.n2, h.n1, fun k hk => ⟨fun hf => (h.a1 k hf).1 hk, h.a2 k hk⟩, fun k hk => (h.a1 k hk).2, h.z0⟩
theorem Tw.keep (h : Tw w0 w A c pg W L v T A2 c2 pg2 W2 L2 v2 T2) (k : K w w') : Tw w0 w' A c pg W L v T A2 c2 pg2 W2 L2 v2 T2 :=
  ⟨h.n1.keep k, h.n2.keep k, h.a1, h.a2, h.z0⟩

/-- A call of the first one. -/
theorem Tw.call (h : Tw w0 w A c pg W L v T A2 c2 pg2 W2 L2 v2 T2) (n1 : Cn w0 w' A c pg' W' L' v' T') (s : Stp A pg pg' v v' w w') : Tw w0 w' A c pg' W' L' v' T' A2 c2 pg2 W2 L2 v2 T2 := by
  have h1 : A2.bh < w.heap.size := lt_of_cell h.n2.rn.s.b.hp.hw.c0
  have h2 := h.n2.rn.s.b.lt
  have h3 := h.n2.cb.lt
  have h4 : A.bh < w.heap.size := lt_of_cell h.n1.rn.s.b.hp.hw.c0
  have h5 := h.n1.rn.s.b.lt
  have h6 := h.n1.cb.lt
  have z0 := h.z0
  have hk := h.n1.rn.k.size
  have fl : ∀ k, foot A pg v k → w0.heap.size ≤ k := fun k hk => h.n1.rn.s.b.flo hk
  refine ⟨n1, ⟨⟨⟨h.n2.rn.s.b.kept s.k (fun j hj => ⟨(h.a1 j hj).1, (h.a1 j hj).2.1, by have := fl j hj; omega, (h.a1 j hj).2.2.1⟩), h.n2.rn.s.r⟩, ?_⟩, ⟨s.k.block h.n2.cb.hb (fun hf => (h.a1 _ hf).2.2.2 rfl), h.n2.cb.off⟩, h.n2.lo⟩, fun k hf => ?_, h.a2, z0⟩
  · exact ⟨s.k.os.trans h.n2.rn.k.os, s.k.tape.trans h.n2.rn.k.tape, s.k.output.trans h.n2.rn.k.output, Nat.le_trans hk s.k.size, fun j hj hn => (s.k.same j (Nat.lt_of_lt_of_le hj hk) (fun hx => by have := fl j hx; omega)).trans (h.n2.rn.k.same j hj hn)⟩
  · rcases s.inn k hf with h7 | h7
    · exact h.a1 k h7
    · exact ⟨fun hg => by have := h.n2.rn.s.b.flt hg; omega, by omega, by omega, by omega⟩

theorem Cn.low {w1 : World} (h : Cn w1 w A c pg W L v T) (k : K w0 w1) : Cn w0 w A c pg W L v T :=
  ⟨⟨Sw.low h.rn.s k.size, k.trans h.rn.k⟩, h.cb, Nat.le_trans k.size h.lo⟩

theorem Tw.made {w1 : World} (h1 : Cn w0 w1 A c pg W L v T) (h2 : Cn w1 w A2 c2 pg2 W2 L2 v2 T2) (b2 : w1.heap.size ≤ A2.bh) (s2 : w1.heap.size ≤ A2.st) (z0 : 0 < w0.heap.size) : Tw w0 w A c pg W L v T A2 c2 pg2 W2 L2 v2 T2 := by
  have h4 : A.bh < w1.heap.size := lt_of_cell h1.rn.s.b.hp.hw.c0
  have h5 := h1.rn.s.b.lt
  have h6 := h1.cb.lt
  refine ⟨h1.keep h2.rn.k, h2.low h1.rn.k, fun k hk => ?_, fun k hk => ?_, z0⟩
  · have := h1.rn.s.b.flt hk
    have := h2.lo
    exact ⟨fun hf => by have := h2.rn.s.b.flo hf; omega, by omega, by omega, by omega⟩
  · have := h2.rn.s.b.flo hk
    exact ⟨by omega, by omega, by omega⟩

theorem fillP_eq (z : Nat → Opv) (L0 : List Pg) (T0 : List Hd.Sl) (hq : A2.q = A.q) (hm : A2.m = A.m) (hz : A2.z = A.z) : ∀ n, fillP A2 z L0 T0 n = fillP A z L0 T0 n
  | 0 => rfl
  | n + 1 => by
    show opP A2 (z n) (fillP A2 z L0 T0 n) = opP A (z n) (fillP A z L0 T0 n)
    rw [fillP_eq z L0 T0 hq hm hz n]
    unfold opP mkP
    rw [hq, hm, hz]

/-- Behind a run that did not use its budget up the next one does nothing. -/
theorem pass_idle (l : Wl L) (r : Rec L W T) (hn : (pass b1 L T).n ≠ b1) (l1 : Wl (pass b1 L T).L) (r1 : Rec (pass b1 L T).L W' (pass b1 L T).T) : (pass b2 (pass b1 L T).L (pass b1 L T).T).n = 0 := by
  have hd := (pass_start l r).fold (bu := b1) hn
  have hi := pass_start l1 r1
  exact (fold_stl (order (pass b1 L T).L (pass b1 L T).T) ⟨(pass b1 L T).L, (pass b1 L T).T, 0, fun _ => false⟩ fun y hy => hd.done (hi.at' y hy).2).2.2

theorem pass_n {b : Int} (b0 : 0 ≤ b) : 0 ≤ (pass b L T).n ∧ (pass b L T).n ≤ b ∧ (pass b L T).n ≤ (liveL L).length := by
  have h1 := fold_le (bu := b) (order L T) (z := ⟨L, T, 0, fun _ => false⟩) b0
  have h2 := fold_n b (order L T) ⟨L, T, 0, fun _ => false⟩
  rw [order_len] at h2
  have e : (⟨L, T, 0, fun _ => false⟩ : S).n = 0 := rfl
  unfold pass
  omega

/-- The same records have the same handles. -/
theorem rec_same (r : Rec L W T) (r2 : Rec L W' T) {a : Int} (ha : a ∈ liveL L) : W a = W' a := by
  obtain ⟨i, s, hi, so, rfl⟩ := r.bl a (Hp.mem_liveL.1 ha)
  rw [(r.nm i s hi so).1, (r2.nm i s hi so).1]

end Co
end Go.Proofs.YtgcnjafoabnhgaaGreatDoor
