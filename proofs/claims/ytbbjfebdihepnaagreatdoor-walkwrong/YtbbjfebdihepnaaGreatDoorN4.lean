/-
  Arguments that came in: a node by value, rows of nodes, scripts, read cell by cell.
-/
import Derived.Test.YtbbjfebdihepnaaGreatDoorK1
import Derived.Test.YtbbjfebdihepnaaGreatDoorL1
import Derived.ChangeArms
namespace Go.Proofs.YtbbjfebdihepnaaGreatDoor
open Go.RowKit Go.Maps Go.Deep Go.ChangeShapes Go.WideShapes Go.ChangeAt
namespace Nd
open Hp (Kept K No In64)

theorem six_of {α : Type} {l : List α} (h : l.length = 6) : ∃ a b c d e f, l = [a, b, c, d, e, f] := by
  match l, h with
  | [a, b, c, d, e, f], _ => exact ⟨a, b, c, d, e, f, rfl⟩

theorem node_of {H : Type} {enc : TypeId × Value → H} {W : World} {base : Nat} {sp : Nat → Bool} {held : Bool} {cs : List Value} {n : Nat} {x : DataW H × List MemPlace} (h : DataW.trod enc Tryz.prog W base sp held n 54 cs = some x) :
    ∃ o : Nv, cs = [encU o.a, encU o.b, encU o.c, encU o.d, encU o.e, encU o.f] ∧ o.Ok := by
  obtain ⟨xs, k, _, _, hl, hxl, hf⟩ := DataW.trod_struct Tryz.underlying54 h
  have ch : Tryz.prog.cellsOf 28 = 1 := by kernel_rfl
  have cu : Tryz.prog.cellsOf 27 = 1 := by kernel_rfl
  have c6 : Tryz.prog.cellsOf 54 = 6 := by kernel_rfl
  have hxl : xs.length = 6 := by simpa using hxl
  rw [c6] at hl
  obtain ⟨v0, v1, v2, v3, v4, v5, rfl⟩ := six_of hl
  have g0 := So.field_at hf 0 28 0 rfl ch (by omega)
  have g1 := So.field_at hf 1 28 1 rfl ch (by omega)
  have g2 := So.field_at hf 2 28 2 rfl ch (by omega)
  have g3 := So.field_at hf 3 28 3 rfl ch (by omega)
  have g4 := So.field_at hf 4 27 4 rfl cu (by omega)
  have g5 := So.field_at hf 5 27 5 rfl cu (by omega)
  obtain ⟨z0, e0, _, k0⟩ := DataW.trod_int Tryz.underlying28 g0
  obtain ⟨z1, e1, _, k1⟩ := DataW.trod_int Tryz.underlying28 g1
  obtain ⟨z2, e2, _, k2⟩ := DataW.trod_int Tryz.underlying28 g2
  obtain ⟨z3, e3, _, k3⟩ := DataW.trod_int Tryz.underlying28 g3
  obtain ⟨z4, e4, _, k4⟩ := DataW.trod_int Tryz.underlying27 g4
  obtain ⟨z5, e5, _, k5⟩ := DataW.trod_int Tryz.underlying27 g5
  simp at e0 e1 e2 e3 e4 e5
  subst e0 e1 e2 e3 e4 e5
  exact ⟨⟨z0, z1, z2, z3, z4, z5⟩, rfl, ⟨So.u64_of_wf k0, So.u64_of_wf k1, So.u64_of_wf k2, So.u64_of_wf k3, So.u64_of_wf k4, So.u64_of_wf k5⟩⟩

set_option maxRecDepth 100000 in
/-- A node by value. -/
theorem open_node {base : Nat} {H : Type} {enc : TypeId × Value → H} {W : World} {sp : Nat → Bool} {held : Bool} {v : Value} {d : DataW H} {p : List MemPlace} (hv : Value.okWide Tryz.prog W .any base 54 v) (h : DataW.Trod enc Tryz.prog W 0 sp held 54 v d p) : ∃ o : Nv, v = o.v ∧ o.Ok := by
  obtain ⟨cs, rfl, _⟩ := okWide_struct Tryz.underlying54 hv
  obtain ⟨fuel, hf⟩ := h
  obtain ⟨o, ho, k⟩ := node_of (cs := cs.toList) hf
  have e : cs = #[encU o.a, encU o.b, encU o.c, encU o.d, encU o.e, encU o.f] := Array.toList_inj.1 ho
  exact ⟨o, by rw [e], k⟩

structure NdAt (w : World) (b off : Nat) (o : Nv) : Prop where
  c0 : w.cell? ⟨b, off, none⟩ = some (encU o.a)
  c1 : w.cell? ⟨b, off + 1, none⟩ = some (encU o.b)
  c2 : w.cell? ⟨b, off + 2, none⟩ = some (encU o.c)
  c3 : w.cell? ⟨b, off + 3, none⟩ = some (encU o.d)
  c4 : w.cell? ⟨b, off + 4, none⟩ = some (encU o.e)
  c5 : w.cell? ⟨b, off + 5, none⟩ = some (encU o.f)
theorem NdAt.keep {w w' : World} {b off : Nat} {o : Nv} (h : NdAt w b off o) (k : K w w') : NdAt w' b off o := ⟨k.cell h.c0, k.cell h.c1, k.cell h.c2, k.cell h.c3, k.cell h.c4, k.cell h.c5⟩
end Nd
end Go.Proofs.YtbbjfebdihepnaaGreatDoor
