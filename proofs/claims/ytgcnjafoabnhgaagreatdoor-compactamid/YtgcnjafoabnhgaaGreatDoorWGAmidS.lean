/-
  compact: two stores with their compactors, and one row of handles.
-/
import Derived.Test.YtgcnjafoabnhgaaGreatDoorWGAmidD
namespace Go.Proofs.YtgcnjafoabnhgaaGreatDoor
open Go.RowKit Go.Maps
namespace Co
open Hp (Kept K No Pg lt_of_cell)
open Hd (U64 findL encU)
open Go.Proofs.YtgcnjafoabnhgaaGreatDoor.So (Ad sp Stp Sw foot)
variable {w0 w w' : World} {c c2 : Nat} {A A2 : Ad} {pg pg' pg2 : List (Int × Nat)} {W W' W2 : Int → Int} {L L' L2 : List Pg} {v v' v2 u vl : Value} {T T' T2 : List Hd.Sl} {hs : List Int}

/-- A store and its compactor behind a turn of blocks of one's own. -/
theorem Cn.own {O : Nat → Prop} (h : Cn w0 w A c pg W L v T) (k : Kept O w w') (hO : ∀ j, O j → w0.heap.size ≤ j ∧ ¬ foot A pg v j ∧ j ≠ A.bh ∧ j ≠ A.st ∧ j ≠ c) (z0 : 0 < w0.heap.size) : Cn w0 w' A c pg W L v T :=
  ⟨⟨⟨h.rn.s.b.kept k (fun j hj => ⟨(hO j hj).2.1, (hO j hj).2.2.1, by have := (hO j hj).1; omega, (hO j hj).2.2.2.1⟩), h.rn.s.r⟩,
    ⟨k.os.trans h.rn.k.os, k.tape.trans h.rn.k.tape, k.output.trans h.rn.k.output, Nat.le_trans h.rn.k.size k.size, fun j hj hn => (k.same j (Nat.lt_of_lt_of_le hj h.rn.k.size) (fun hx => by have := (hO j hx).1; omega)).trans (h.rn.k.same j hj hn)⟩⟩,
    ⟨k.block h.cb.hb (fun e => (hO c e).2.2.2.2 rfl), h.cb.off⟩, h.lo⟩

structure Am (w0 w : World) (A : Ad) (c : Nat) (pg : List (Int × Nat)) (W : Int → Int) (L : List Pg) (v : Value) (T : List Hd.Sl) (A2 : Ad) (c2 : Nat) (pg2 : List (Int × Nat)) (W2 : Int → Int) (L2 : List Pg) (v2 : Value) (T2 : List Hd.Sl) (vl : Value) (hs : List Int) : Prop where
  tw : Tw w0 w A c pg W L v T A2 c2 pg2 W2 L2 v2 T2
  row : w.ownsRow w0.heap.size 43 1 vl hs.length (hs.map encU)
  o1 : ∀ b, some b = vl.ownBlock → ¬ foot A pg v b ∧ b ≠ A.bh ∧ b ≠ A.st ∧ b ≠ c
  o2 : ∀ b, some b = vl.ownBlock → ¬ foot A2 pg2 v2 b ∧ b ≠ A2.bh ∧ b ≠ A2.st ∧ b ≠ c2
  u : ∀ x ∈ hs, U64 x

theorem Am.nil (h : Tw w0 w A c pg W L v T A2 c2 pg2 W2 L2 v2 T2) : Am w0 w A c pg W L v T A2 c2 pg2 W2 L2 v2 T2 (.slice none 0 0) [] :=
  ⟨h, World.ownsRow_nil _ _ _ _, fun b hb => (by cases hb), fun b hb => (by cases hb), fun x hx => (by cases hx)⟩
theorem Am.swap (h : Am w0 w A c pg W L v T A2 c2 pg2 W2 L2 v2 T2 vl hs) : Am w0 w A2 c2 pg2 W2 L2 v2 T2 A c pg W L v T vl hs := ⟨h.tw.swap, h.row, h.o2, h.o1, h.u⟩
theorem Am.keep (h : Am w0 w A c pg W L v T A2 c2 pg2 W2 L2 v2 T2 vl hs) (k : K w w') : Am w0 w' A c pg W L v T A2 c2 pg2 W2 L2 v2 T2 vl hs :=
  ⟨h.tw.keep k, Hd.ownsRow_kept h.row k (fun _ _ x => x), h.o1, h.o2, h.u⟩

/-- A call of the first one. -/
theorem Am.call (h : Am w0 w A c pg W L v T A2 c2 pg2 W2 L2 v2 T2 vl hs) (n1 : Cn w0 w' A c pg' W' L' v' T') (s : Stp A pg pg' v v' w w') : Am w0 w' A c pg' W' L' v' T' A2 c2 pg2 W2 L2 v2 T2 vl hs :=
  ⟨h.tw.call n1 s, Hd.ownsRow_kept h.row s.k (fun g hg => (h.o1 g hg).1), fun b hb => ⟨s.off (Hd.own_lt h.row hb).2 (h.o1 b hb).1, (h.o1 b hb).2⟩, h.o2, h.u⟩

/-- The row grows. -/
theorem Am.app {o : Obj} (h : Am w0 w A c pg W L v T A2 c2 pg2 W2 L2 v2 T2 vl hs) {x : Int} (hx : U64 x) (hown : w'.ownsRow w0.heap.size 43 1 u (hs.length + 1) (hs.map encU ++ [encU x])) (hg : (w.alloc o).grownBy w' vl.ownBlock) (hat : u.ownBlock = vl.ownBlock ∨ u.ownBlock = some (w.alloc o).heap.size) : Am w0 w' A c pg W L v T A2 c2 pg2 W2 L2 v2 T2 u (hs ++ [x]) := by
  have k := grown_kept hg
  have nw : ∀ b, some b = u.ownBlock → some b = vl.ownBlock ∨ w.heap.size ≤ b := fun b hb => by
    rcases hat with e | e
    · exact .inl (by rw [hb, e])
    · rw [e] at hb
      have : b = (w.alloc o).heap.size := Option.some.inj hb
      simp at this
      exact .inr (by omega)
  have lo : ∀ j, some j = vl.ownBlock → w0.heap.size ≤ j := fun j hj => (Hd.own_lt h.row hj).1
  have off : ∀ {A : Ad} {c : Nat} {pg : List (Int × Nat)} {W : Int → Int} {L : List Pg} {v : Value} {T : List Hd.Sl}, Cn w0 w A c pg W L v T → (∀ b, some b = vl.ownBlock → ¬ foot A pg v b ∧ b ≠ A.bh ∧ b ≠ A.st ∧ b ≠ c) → ∀ b, some b = u.ownBlock → ¬ foot A pg v b ∧ b ≠ A.bh ∧ b ≠ A.st ∧ b ≠ c := fun {A c pg W L v T} n ho b hb => by
    rcases nw b hb with h4 | h4
    · exact ho b h4
    · have h1 : A.bh < w.heap.size := lt_of_cell n.rn.s.b.hp.hw.c0
      have h2 := n.rn.s.b.lt
      have h3 := n.cb.lt
      exact ⟨fun hf => by have := n.rn.s.b.flt hf; omega, by omega, by omega, by omega⟩
  have z0 := h.tw.z0
  refine ⟨⟨h.tw.n1.own k (fun j hj => ⟨lo j hj, h.o1 j hj⟩) z0, h.tw.n2.own k (fun j hj => ⟨lo j hj, h.o2 j hj⟩) z0, h.tw.a1, h.tw.a2, z0⟩, by rw [List.length_append, List.map_append]; exact hown, off h.tw.n1 h.o1, off h.tw.n2 h.o2, fun y hy => ?_⟩
  rcases List.mem_append.1 hy with h4 | h4
  · exact h.u y h4
  · obtain rfl : y = x := by simpa using h4
    exact hx

end Co
end Go.Proofs.YtgcnjafoabnhgaaGreatDoor
