/-
  Arguments that came in: a node by value, rows of nodes, scripts, read cell by cell.
-/
import Derived.Test.YtlalmdckdejggaaGreatDoorK1
import Derived.Test.YtlalmdckdejggaaGreatDoorL1
import Derived.ChangeArms
namespace Go.Proofs.YtlalmdckdejggaaGreatDoor
open Go.RowKit Go.Maps Go.Deep Go.ChangeShapes Go.WideShapes Go.ChangeAt
namespace Nd
open Hp (Kept K No In64)

theorem field_atN {H : Type} {enc : TypeId × Value → H} {W : World} {base : Nat} {sp : Nat → Bool} {held : Bool} {fs : Array Field} {cs : List Value} {xs : List (DataW H × List MemPlace)} {k : Nat}
    (hf : ∀ (i : Nat) (f : Field), fs[i]? = some f → DataW.trod enc Tryz.prog W base sp held k f.type ((cs.drop f.offset).take (Tryz.prog.cellsOf f.type)) = xs[i]?) (i : Nat) (t : TypeId) (o c : Nat) (h : (fs[i]?).map (fun f => (f.type, f.offset)) = some (t, o)) (hc : Tryz.prog.cellsOf t = c) (hi : i < xs.length) :
    DataW.trod enc Tryz.prog W base sp held k t ((cs.drop o).take c) = some xs[i] := by
  obtain ⟨f, h1, h2⟩ := Option.map_eq_some_iff.1 h
  have := hf i f h1
  cases h2
  rw [hc, List.getElem?_eq_getElem hi] at this
  exact this

theorem six_of {α : Type} {l : List α} (h : l.length = 6) : ∃ a b c d e f, l = [a, b, c, d, e, f] := by
  match l, h with
  | [a, b, c, d, e, f], _ => exact ⟨a, b, c, d, e, f, rfl⟩

theorem nine_of {α : Type} {l : List α} (h : l.length = 9) : ∃ a b c d e f g i j, l = [a, b, c, d, e, f, g, i, j] := by
  match l, h with
  | [a, b, c, d, e, f, g, i, j], _ => exact ⟨a, b, c, d, e, f, g, i, j, rfl⟩

theorem node_of {H : Type} {enc : TypeId × Value → H} {W : World} {base : Nat} {sp : Nat → Bool} {held : Bool} {cs : List Value} {n : Nat} {x : DataW H × List MemPlace} (h : DataW.trod enc Tryz.prog W base sp held n 47 cs = some x) :
    ∃ o : Nv, cs = [encU o.a, encU o.b, encU o.c, encU o.d, encU o.e, encU o.f] ∧ o.Ok := by
  obtain ⟨xs, k, _, _, hl, hxl, hf⟩ := DataW.trod_struct Tryz.underlying47 h
  have ch : Tryz.prog.cellsOf 45 = 1 := by kernel_rfl
  have cu : Tryz.prog.cellsOf 44 = 1 := by kernel_rfl
  have c6 : Tryz.prog.cellsOf 47 = 6 := by kernel_rfl
  have hxl : xs.length = 6 := by simpa using hxl
  rw [c6] at hl
  obtain ⟨v0, v1, v2, v3, v4, v5, rfl⟩ := six_of hl
  have g0 := So.field_at hf 0 45 0 rfl ch (by omega)
  have g1 := So.field_at hf 1 45 1 rfl ch (by omega)
  have g2 := So.field_at hf 2 45 2 rfl ch (by omega)
  have g3 := So.field_at hf 3 45 3 rfl ch (by omega)
  have g4 := So.field_at hf 4 44 4 rfl cu (by omega)
  have g5 := So.field_at hf 5 44 5 rfl cu (by omega)
  obtain ⟨z0, e0, _, k0⟩ := DataW.trod_int Tryz.underlying45 g0
  obtain ⟨z1, e1, _, k1⟩ := DataW.trod_int Tryz.underlying45 g1
  obtain ⟨z2, e2, _, k2⟩ := DataW.trod_int Tryz.underlying45 g2
  obtain ⟨z3, e3, _, k3⟩ := DataW.trod_int Tryz.underlying45 g3
  obtain ⟨z4, e4, _, k4⟩ := DataW.trod_int Tryz.underlying44 g4
  obtain ⟨z5, e5, _, k5⟩ := DataW.trod_int Tryz.underlying44 g5
  simp at e0 e1 e2 e3 e4 e5
  subst e0 e1 e2 e3 e4 e5
  exact ⟨⟨z0, z1, z2, z3, z4, z5⟩, rfl, ⟨So.u64_of_wf k0, So.u64_of_wf k1, So.u64_of_wf k2, So.u64_of_wf k3, So.u64_of_wf k4, So.u64_of_wf k5⟩⟩

structure NdAt (w : World) (b off : Nat) (o : Nv) : Prop where
  c0 : w.cell? ⟨b, off, none⟩ = some (encU o.a)
  c1 : w.cell? ⟨b, off + 1, none⟩ = some (encU o.b)
  c2 : w.cell? ⟨b, off + 2, none⟩ = some (encU o.c)
  c3 : w.cell? ⟨b, off + 3, none⟩ = some (encU o.d)
  c4 : w.cell? ⟨b, off + 4, none⟩ = some (encU o.e)
  c5 : w.cell? ⟨b, off + 5, none⟩ = some (encU o.f)
theorem NdAt.keep {w w' : World} {b off : Nat} {o : Nv} (h : NdAt w b off o) (k : K w w') : NdAt w' b off o := ⟨k.cell h.c0, k.cell h.c1, k.cell h.c2, k.cell h.c3, k.cell h.c4, k.cell h.c5⟩
theorem nv0_ok : nv0.Ok := ⟨by decide, by decide, by decide, by decide, by decide, by decide⟩

structure Nodes (w : World) (a : Option Addr) (b off len cap : Nat) (z : Nat → Nv) : Prop where
  ix : ∀ i : Nat, i < len → ∀ w', (Instr.indexAt 59 (.slice a len cap) (.int .i64 (i : Int))).run Tryz.prog w' = .ok (.pointer (some ⟨b, off + i * 6, none⟩)) w'
  cell : ∀ j, j < len → NdAt w b (off + j * 6) (z j)
  ok : ∀ j, (z j).Ok
  ad : 0 < len → a = some ⟨b, off, none⟩
theorem Nodes.keep {w w' : World} {a : Option Addr} {b off len cap : Nat} {z : Nat → Nv} (h : Nodes w a b off len cap z) (k : K w w') : Nodes w' a b off len cap z := ⟨h.ix, fun j hj => (h.cell j hj).keep k, h.ok, h.ad⟩

/-- A call of a script. -/
structure Opn where
  d : Int
  n : Int
  k : Int
  x : Nv
structure OpnOk (o : Opn) : Prop where
  d : In64 o.d
  n : In64 o.n
  k : In64 o.k
  x : o.x.Ok
structure OpnAt (w : World) (b off : Nat) (o : Opn) : Prop where
  c0 : w.cell? ⟨b, off, none⟩ = some (.int .i64 o.d)
  c1 : w.cell? ⟨b, off + 1, none⟩ = some (.int .i64 o.n)
  c2 : w.cell? ⟨b, off + 2, none⟩ = some (.int .i64 o.k)
  c3 : w.cell? ⟨b, off + 3, none⟩ = some (encU o.x.a)
  c4 : w.cell? ⟨b, off + 4, none⟩ = some (encU o.x.b)
  c5 : w.cell? ⟨b, off + 5, none⟩ = some (encU o.x.c)
  c6 : w.cell? ⟨b, off + 6, none⟩ = some (encU o.x.d)
  c7 : w.cell? ⟨b, off + 7, none⟩ = some (encU o.x.e)
  c8 : w.cell? ⟨b, off + 8, none⟩ = some (encU o.x.f)
theorem OpnAt.keep {w w' : World} {b off : Nat} {o : Opn} (h : OpnAt w b off o) (k : K w w') : OpnAt w' b off o := ⟨k.cell h.c0, k.cell h.c1, k.cell h.c2, k.cell h.c3, k.cell h.c4, k.cell h.c5, k.cell h.c6, k.cell h.c7, k.cell h.c8⟩
structure Script (w : World) (a : Option Addr) (b off len cap : Nat) (z : Nat → Opn) : Prop where
  ix : ∀ i : Nat, i < len → ∀ w', (Instr.indexAt 22 (.slice a len cap) (.int .i64 (i : Int))).run Tryz.prog w' = .ok (.pointer (some ⟨b, off + i * 9, none⟩)) w'
  cell : ∀ j, j < len → OpnAt w b (off + j * 9) (z j)
  ok : ∀ j, OpnOk (z j)
theorem Script.keep {w w' : World} {a : Option Addr} {b off len cap : Nat} {z : Nat → Opn} (h : Script w a b off len cap z) (k : K w w') : Script w' a b off len cap z := ⟨h.ix, fun j hj => (h.cell j hj).keep k, h.ok⟩

theorem opn_of {H : Type} {enc : TypeId × Value → H} {W : World} {base : Nat} {sp : Nat → Bool} {held : Bool} {a : Addr} {cs : List Value} {n : Nat} {x : DataW H × List MemPlace} (hc : W.cells? base a 9 = some cs) (h : DataW.trod enc Tryz.prog W base sp held n 49 cs = some x) :
    ∃ (b off : Nat) (o : Opn), a = ⟨b, off, none⟩ ∧ OpnAt W b off o ∧ OpnOk o := by
  obtain ⟨_, hlen, hcell⟩ := World.cells?_some hc
  obtain ⟨xs, k, _, _, _, hxl, hf⟩ := DataW.trod_struct Tryz.underlying49 h
  have ci : Tryz.prog.cellsOf 3 = 1 := by kernel_rfl
  have cn : Tryz.prog.cellsOf 47 = 6 := by kernel_rfl
  have hxl : xs.length = 4 := by simpa using hxl
  have g0 := So.field_at hf 0 3 0 rfl ci (by omega)
  have g1 := So.field_at hf 1 3 1 rfl ci (by omega)
  have g2 := So.field_at hf 2 3 2 rfl ci (by omega)
  have g3 := field_atN hf 3 47 3 6 rfl cn (by omega)
  obtain ⟨z0, e0, _, k0⟩ := DataW.trod_int Tryz.underlying3 g0
  obtain ⟨z1, e1, _, k1⟩ := DataW.trod_int Tryz.underlying3 g1
  obtain ⟨z2, e2, _, k2⟩ := DataW.trod_int Tryz.underlying3 g2
  obtain ⟨o, e3, k3⟩ := node_of g3
  obtain ⟨v0, v1, v2, v3, v4, v5, v6, v7, v8, rfl⟩ := nine_of hlen
  simp at e0 e1 e2 e3
  obtain ⟨rfl, rfl, rfl, rfl, rfl, rfl⟩ := e3
  subst e0 e1 e2
  have r0 := hcell 0 (by omega)
  have r1 := hcell 1 (by omega)
  have r2 := hcell 2 (by omega)
  have r3 := hcell 3 (by omega)
  have r4 := hcell 4 (by omega)
  have r5 := hcell 5 (by omega)
  have r6 := hcell 6 (by omega)
  have r7 := hcell 7 (by omega)
  have r8 := hcell 8 (by omega)
  obtain ⟨b, off, spot⟩ := a
  have hspot : spot = none := by simpa [Addr.add] using World.cell?_spot r0
  subst hspot
  rw [Go.WideShapes.add_plain] at r0 r1 r2 r3 r4 r5 r6 r7 r8
  exact ⟨b, off, ⟨z0, z1, z2, o⟩, rfl, ⟨by simpa using r0, by simpa using r1, by simpa using r2, by simpa using r3, by simpa using r4, by simpa using r5, by simpa using r6, by simpa using r7, by simpa using r8⟩, ⟨In64.of_wf k0, In64.of_wf k1, In64.of_wf k2, k3⟩⟩

theorem script_of {H : Type} {enc : TypeId × Value → H} {W : World} {base : Nat} {sp : Nat → Bool} {held : Bool} {fuel : Nat} {a : Option Addr} {len cap : Nat} {x : DataW H × List MemPlace} (h : DataW.trod enc Tryz.prog W base sp held fuel 22 [.slice a len cap] = some x) :
    len ≤ maxLen ∧ ∃ b off z, Script W a b off len cap z := by
  obtain ⟨hm, b, off, z, h1, h2, h3⟩ := So.rows_of Tryz.underlying22 (m := 9) (by kernel_rfl) (OpnAt W) OpnOk ⟨0, 0, 0, nv0⟩ ⟨⟨by decide, by decide⟩, ⟨by decide, by decide⟩, ⟨by decide, by decide⟩, nv0_ok⟩ (fun ad cs n y hc ht => opn_of hc ht) h
  refine ⟨hm, b, off, z, fun i hi w' => ?_, h2, h3⟩
  rw [h1 (by omega)]
  exact So.run_ixg Tryz.underlying22 (by kernel_rfl) (fun w => by kernel_rfl) b off len cap i hi w'

end Nd
end Go.Proofs.YtlalmdckdejggaaGreatDoor
