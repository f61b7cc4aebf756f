/-
  The walk of the statements' fixed example: an arena of 192 words, three pages, a word written, moved, read.
-/
import Derived.Test.YtlpdgomoepinjaaDoorSMv
namespace Go.Proofs.YtlpdgomoepinjaaDoor
open Go.RowKit Go.Maps
namespace Sl
variable {w : World} {bs bm : Nat} {q : Int} {pg : List (Int × Nat)} {W : Int → Int}

/-- Least tells one page alone. -/
theorem least_eq {n r : Int} (h : Least pg n r) {s : Int} (hs : Least pg n s) : r = s := by
  rcases Int.lt_trichotomy r s with h1 | h1 | h1
  · exact absurd h.run (hs.least r h.lo h1)
  · exact h1
  · exact absurd hs.run (h.least s hs.lo h1)

theorem least_of {n s : Int} (h0 : 0 ≤ s) (h1 : s + n ≤ 1048576) (h2 : freeRun pg s n) (h3 : ∀ g, 0 ≤ g → g < s → ¬ freeRun pg g n) : Least pg n s := ⟨h0, h1, h2, h3⟩

end Sl
end Go.Proofs.YtlpdgomoepinjaaDoor
