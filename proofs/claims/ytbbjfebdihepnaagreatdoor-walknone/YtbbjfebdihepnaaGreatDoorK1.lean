/-
  What the rows' condition on math/bits' table gives the walks, and that the program's own start meets it.
-/
import Derived.Test.YtbbjfebdihepnaaGreatDoorRows
import Derived.Test.YtbbjfebdihepnaaGreatDoorH5
import Derived.Lib.LaidTab
import Derived.LaidMore
import Derived.ProofKit
import Derived.OpenShut
import Derived.Stop.Joined
import Derived.WalkKit
import Derived.ShutString
import Derived.ChangeOld
import Derived.Below
namespace Go.Proofs.YtbbjfebdihepnaaGreatDoor
open Go.ChangeShapes Go.WideShapes Go.ChangeAt Go.RowKit
namespace Hp

theorem own : ownKnob Tryz.prog.godebug = none := by kernel_rfl
theorem gTab : Tryz.prog.globalNamed "math/bits.deBruijn64tab" = some 1 := by kernel_rfl
theorem tTab : (Tryz.prog.globals[1]?).map (·.type) = some 243 := by kernel_rfl
theorem cellsTab : Tryz.prog.cellsOf 243 = 64 := by kernel_rfl
theorem cellsU8 : Tryz.prog.cellsOf 5 = 1 := by kernel_rfl

abbrev laid1 : List (String × DataW Unit) := [("math/bits.deBruijn64tab", Rows.laid_math_bits_deBruijn64tab)]
def zs : List Int := Lib.deBruijn64tab.map fun (n : Nat) => (n : Int)

theorem door_met (os : Os) (args : Array Value) : laidMetH Tryz.prog laid1 ((World.doorLaid Tryz.prog 400 os).forCall (fun _ _ => 0) ⟨#[], args, []⟩).memory :=
  laidMetH_of_parts3 (fuel := 8) (laidMet_of_run' 8 (by kernel_rfl) (by kernel_rfl)) (by kernel_rfl) (by kernel_rfl)

theorem zs_at : ∀ j : Fin 64, zs.getD j.val 0 = ((Lib.deBruijn64tab.getD j.val 0 : Nat) : Int) := by decide +kernel

theorem tab_of_laid {W : World} (h : laidMetH Tryz.prog laid1 W) : Bt.Tab W := by
  rw [MakeChecks.laidMetH_plain _ _ _ (by kernel_rfl)] at h
  have e : (Rows.laid_math_bits_deBruijn64tab : DataW Unit) = Lib.tabData .u8 zs := by kernel_rfl
  have h2 : laidMet Tryz.prog [("math/bits.deBruijn64tab", Lib.tabData .u8 zs)] W := by
    rw [← e]
    exact h
  have hT := Lib.tabIs_of_head gTab tTab Tryz.underlying243 Tryz.underlying5 cellsU8 cellsTab h2
  intro j hj
  rw [hT.cell gTab j hj]
  exact congrArg (fun z => some (Value.int IntKind.u8 z)) (zs_at ⟨j, hj⟩)

end Hp
end Go.Proofs.YtbbjfebdihepnaaGreatDoor

/-
  Arguments that came in, read cell by cell: rows of ints, of calls.
-/
namespace Go.Proofs.YtbbjfebdihepnaaGreatDoor
open Go.RowKit Go.Maps Go.Deep Go.ChangeShapes Go.WideShapes Go.ChangeAt
namespace So
open Hp (Kept K No)

def In64 (a : Int) : Prop := -9223372036854775808 ≤ a ∧ a ≤ 9223372036854775807
theorem In64.of_wf {a : Int} (h : (Lit.int .i64 a).wf = true) : In64 a := by
  simp only [Lit.wf, IntKind.min, IntKind.max, IntKind.signed, IntKind.bits, Bool.and_eq_true] at h
  unfold In64
  simp at h
  omega
theorem u64_of_wf {a : Int} (h : (Lit.int .u64 a).wf = true) : 0 ≤ a ∧ a ≤ 18446744073709551615 := by
  simp only [Lit.wf, IntKind.min, IntKind.max, IntKind.signed, IntKind.bits, Bool.and_eq_true] at h
  simp at h
  omega

theorem run_ixg {t e : TypeId} {m : Nat} (hu : Tryz.prog.underlying t = some (.slice e)) (hel : Tryz.prog.elem t = e) (hsz : ∀ w, (sizeOf e).run Tryz.prog w = .ok m w) (b off len cap : Nat) (i : Nat) (hi : i < len) (w' : World) : (Instr.indexAt t (.slice (some ⟨b, off, none⟩) len cap) (.int .i64 (i : Int))).run Tryz.prog w' = .ok (.pointer (some ⟨b, off + i * m, none⟩)) w' := by
  rw [run_indexAt_slice w' t _ len cap .i64 i (by rw [hel]; exact hu), if_pos (by omega), hel, hsz]
  simp only [Result.andThen_ok, Int.toNat_natCast]
  rw [Go.WideShapes.add_plain]

/-- A call of a script. -/
structure Opv where
  d : Int
  n : Int
  a : Int
  h : Int
structure OpOk (o : Opv) : Prop where
  d : In64 o.d
  n : In64 o.n
  a : In64 o.a
  h : 0 ≤ o.h ∧ o.h ≤ 18446744073709551615
structure OpAt (w : World) (b off : Nat) (o : Opv) : Prop where
  c0 : w.cell? ⟨b, off, none⟩ = some (.int .i64 o.d)
  c1 : w.cell? ⟨b, off + 1, none⟩ = some (.int .i64 o.n)
  c2 : w.cell? ⟨b, off + 2, none⟩ = some (.int .i64 o.a)
  c3 : w.cell? ⟨b, off + 3, none⟩ = some (.int .u64 o.h)
theorem OpAt.keep {w w' : World} {b off : Nat} {o : Opv} (h : OpAt w b off o) (k : K w w') : OpAt w' b off o := ⟨k.cell h.c0, k.cell h.c1, k.cell h.c2, k.cell h.c3⟩
theorem four {α : Type} {l : List α} (h : l.length = 4) : ∃ a b c d, l = [a, b, c, d] := by
  obtain _ | ⟨a, l⟩ := l
  · cases h
  obtain _ | ⟨b, l⟩ := l
  · cases h
  obtain _ | ⟨c, l⟩ := l
  · cases h
  obtain _ | ⟨d, l⟩ := l
  · cases h
  obtain _ | ⟨e, l⟩ := l
  · exact ⟨a, b, c, d, rfl⟩
  · simp at h

/-- A row of ints. -/
structure Nums (w : World) (a : Option Addr) (b off len cap : Nat) (z : Nat → Int) : Prop where
  ix : ∀ i : Nat, i < len → ∀ w', (Instr.indexAt 23 (.slice a len cap) (.int .i64 (i : Int))).run Tryz.prog w' = .ok (.pointer (some ⟨b, off + i, none⟩)) w'
  cell : ∀ j, j < len → w.cell? ⟨b, off + j, none⟩ = some (.int .i64 (z j))
  ok : ∀ j, In64 (z j)

end So
end Go.Proofs.YtbbjfebdihepnaaGreatDoor
