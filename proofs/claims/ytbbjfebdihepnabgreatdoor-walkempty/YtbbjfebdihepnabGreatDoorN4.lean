/-
  Arguments that came in: a node by value, rows of nodes, scripts, read cell by cell.
-/
import Derived.Test.YtbbjfebdihepnabGreatDoorK1
import Derived.Test.YtbbjfebdihepnabGreatDoorL1
import Derived.ChangeArms
namespace Go.Proofs.YtbbjfebdihepnabGreatDoor
open Go.RowKit Go.Maps Go.Deep Go.ChangeShapes Go.WideShapes Go.ChangeAt
namespace Nd
open Hp (Kept K No In64)

structure NdAt (w : World) (b off : Nat) (o : Nv) : Prop where
  c0 : w.cell? ⟨b, off, none⟩ = some (encU o.a)
  c1 : w.cell? ⟨b, off + 1, none⟩ = some (encU o.b)
  c2 : w.cell? ⟨b, off + 2, none⟩ = some (encU o.c)
  c3 : w.cell? ⟨b, off + 3, none⟩ = some (encU o.d)
  c4 : w.cell? ⟨b, off + 4, none⟩ = some (encU o.e)
  c5 : w.cell? ⟨b, off + 5, none⟩ = some (encU o.f)
theorem NdAt.keep {w w' : World} {b off : Nat} {o : Nv} (h : NdAt w b off o) (k : K w w') : NdAt w' b off o := ⟨k.cell h.c0, k.cell h.c1, k.cell h.c2, k.cell h.c3, k.cell h.c4, k.cell h.c5⟩
end Nd
end Go.Proofs.YtbbjfebdihepnabGreatDoor
