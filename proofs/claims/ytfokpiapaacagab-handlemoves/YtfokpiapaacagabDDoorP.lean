/-
  A row of pairs of ints that came in.
-/
import Derived.Test.YtfokpiapaacagabDDoor
namespace Go.Proofs.Ytfokpiapaacagab
open Go.RowKit Go.Maps Go.Deep Go.ChangeShapes Go.WideShapes Go.ChangeAt
namespace Hd
open Hp (Kept K No)

structure PairAt (w : World) (b off : Nat) (o : Int × Int) : Prop where
  c0 : w.cell? ⟨b, off, none⟩ = some (.int .i64 o.1)
  c1 : w.cell? ⟨b, off + 1, none⟩ = some (.int .i64 o.2)
theorem PairAt.keep {w w' : World} {b off : Nat} {o : Int × Int} (h : PairAt w b off o) (k : K w w') : PairAt w' b off o := ⟨k.cell h.c0, k.cell h.c1⟩
structure Pairs (w : World) (a : Option Addr) (b off len cap : Nat) (z : Nat → Int × Int) : Prop where
  ix : ∀ i : Nat, i < len → ∀ w', (Instr.indexAt 43 (.slice a len cap) (.int .i64 (i : Int))).run Try.prog w' = .ok (.pointer (some ⟨b, off + i * 2, none⟩)) w'
  cell : ∀ j, j < len → PairAt w b (off + j * 2) (z j)
  ok : ∀ j, In64 (z j).1 ∧ In64 (z j).2

theorem two {α : Type} {l : List α} (h : l.length = 2) : ∃ a b, l = [a, b] := by
  obtain _ | ⟨a, l⟩ := l
  · cases h
  obtain _ | ⟨b, l⟩ := l
  · cases h
  obtain _ | ⟨c, l⟩ := l
  · exact ⟨a, b, rfl⟩
  · simp at h

theorem pair_of {H : Type} {enc : TypeId × Value → H} {W : World} {base : Nat} {sp : Nat → Bool} {held : Bool} {a : Addr} {cs : List Value} {n : Nat} {x : DataW H × List MemPlace} (hc : W.cells? base a 2 = some cs) (h : DataW.trod enc Try.prog W base sp held n 45 cs = some x) :
    ∃ (b off : Nat) (o : Int × Int), a = ⟨b, off, none⟩ ∧ PairAt W b off o ∧ (In64 o.1 ∧ In64 o.2) := by
  obtain ⟨_, hlen, hcell⟩ := World.cells?_some hc
  have c3 : Try.prog.cellsOf 3 = 1 := by kernel_rfl
  obtain ⟨v0, v1, rfl⟩ := two hlen
  obtain ⟨xs, m, _, _, _, hxl, hf⟩ := DataW.trod_array Try.underlying45 h
  have g0 := hf 0 (by omega)
  have g1 := hf 1 (by omega)
  rw [c3, List.getElem?_eq_getElem (by omega)] at g0 g1
  obtain ⟨z0, e0, _, k0⟩ := DataW.trod_int Try.underlying3 g0
  obtain ⟨z1, e1, _, k1⟩ := DataW.trod_int Try.underlying3 g1
  simp at e0 e1
  subst e0 e1
  have r0 := hcell 0 (by omega)
  have r1 := hcell 1 (by omega)
  obtain ⟨b, off, spot⟩ := a
  have hspot : spot = none := by simpa [Addr.add] using World.cell?_spot r0
  subst hspot
  rw [Go.WideShapes.add_plain] at r0 r1
  exact ⟨b, off, (z0, z1), rfl, ⟨by simpa using r0, by simpa using r1⟩, In64.of_wf k0, In64.of_wf k1⟩

theorem pairs_of {H : Type} {enc : TypeId × Value → H} {W : World} {base : Nat} {sp : Nat → Bool} {held : Bool} {fuel : Nat} {a : Option Addr} {len cap : Nat} {x : DataW H × List MemPlace} (h : DataW.trod enc Try.prog W base sp held fuel 43 [.slice a len cap] = some x) :
    len ≤ maxLen ∧ ∃ b off z, Pairs W a b off len cap z := by
  obtain ⟨hm, b, off, z, h1, h2, h3⟩ := rows_of Try.underlying43 (m := 2) (by kernel_rfl) (PairAt W) (fun o => In64 o.1 ∧ In64 o.2) (0, 0) ⟨⟨by decide, by decide⟩, ⟨by decide, by decide⟩⟩ (fun ad cs n y hc ht => pair_of hc ht) h
  refine ⟨hm, b, off, z, fun i hi w' => ?_, h2, h3⟩
  rw [h1 (by omega)]
  exact run_ixg Try.underlying43 (by kernel_rfl) (fun w => by kernel_rfl) b off len cap i hi w'

end Hd
end Go.Proofs.Ytfokpiapaacagab
