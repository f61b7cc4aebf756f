/-
  The walk of the statement on claimed pages.
-/
import Derived.Test.YtlpdgomoepinjaaDoorSAwake
import Derived.Test.YtlpdgomoepinjaaDoorSPigeon
namespace Go.Proofs.YtlpdgomoepinjaaDoor
open Go.RowKit Go.Maps
namespace Sl
variable {w : World} {bs bm : Nat} {q : Int} {pg : List (Int × Nat)} {W : Int → Int}

/-- What Pages tells: the granted pages, rising, in a new row. -/
def PagesSaid : Prop := ∀ (w : World) (bs bm : Nat) (q : Int) (pg : List (Int × Nat)) (W : Int → Int), Arena w bs bm q pg W →
  Calls Tryd.prog 47 #[.pointer (some ⟨bs, 0, none⟩)] w fun e w' => ∃ a cap, e = .returned (.slice a pg.length cap) ∧ Below w.heap.size w w' ∧
    (0 < pg.length → ∃ g, a = some ⟨g, 0, none⟩ ∧ w.heap.size ≤ g ∧ ∀ (i : Nat) (p : Int × Nat), pg[i]? = some p → w'.cell? ⟨g, i, none⟩ = some (.int .i64 p.1))

theorem claimE_zero {p : Int} (he : claimE q pg p = 0) : isPageB p = true ∧ blk pg p = none := by
  have hp : isPageB p = true := by
    cases hp : isPageB p with
    | true => rfl
    | false => simp [claimE, hp] at he
  refine ⟨hp, ?_⟩
  cases hb : blk pg p with
  | none => rfl
  | some b => simp [claimE, hp, hb] at he

/-- A slice of numbers that came in. -/
structure Nums (w : World) (a : Option Addr) (b off len cap : Nat) (z : Nat → Int) : Prop where
  ix : ∀ i : Nat, i < len → ∀ w', (Instr.indexAt 42 (.slice a len cap) (.int .i64 (i : Int))).run Tryd.prog w' = .ok (.pointer (some ⟨b, off + i, none⟩)) w'
  lt : 0 < len → b < w.heap.size
  cell : ∀ j, j < len → w.cell? ⟨b, off + j, none⟩ = some (.int .i64 (z j))
  wf : ∀ j, (Lit.int .i64 (z j)).wf = true

/-- What the loop over the claimed pages keeps. -/
structure Kept (w wx : World) (pg : List (Int × Nat)) (W : Int → Int) (i : Nat) : Prop where
  le : pg.length ≤ i
  ar : Arena wx (w.heap.size + 1) w.heap.size 262144 pg W
  bel : Below w.heap.size w wx
  ge : ∀ k, foot (w.heap.size + 1) w.heap.size pg k → w.heap.size ≤ k

theorem Kept.step {w wx w2 : World} {pg pg2 : List (Int × Nat)} {W W2 : Int → Int} {i j : Nat} (h : Kept w wx pg W i) (ha : Arena w2 (w.heap.size + 1) w.heap.size 262144 pg2 W2) (hs : Step (w.heap.size + 1) w.heap.size pg pg2 wx w2) (hl : pg2.length ≤ j) : Kept w w2 pg2 W2 j :=
  ⟨hl, ha, h.bel.trans (hs.below h.bel.size h.ge), hs.foot_ge h.bel.size h.ge⟩

theorem claimE_far {p : Int} (hp : isPageB p = false) : claimE q pg p = 2 := by simp [claimE, hp]

end Sl
end Go.Proofs.YtlpdgomoepinjaaDoor
