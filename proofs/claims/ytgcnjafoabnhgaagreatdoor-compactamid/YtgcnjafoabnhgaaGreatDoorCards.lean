/-
  DERIVED. GIVEN WITH THE SEED: THE CARDS: each row of YtgcnjafoabnhgaaGreatDoorRows.lean that lists a variable, with what it lists TIED to the program's text (the seventh form; the later family's looks); each row that meets fmt, with fmt's text TOLD by the authors' own Lean function (tested against real Go, not proved from fmt's source: count such statements apart). THE CARD IS WHAT COUNTS. Prove the row's statement (the work); the ties are given (YtgcnjafoabnhgaaGreatDoorTie.lean); close each card by the builder's one call (the guide's Derived/Test/ToyasCard.lean, 'card_holds'). Laid BY PROGRAM, IN A SANDBOX (cutbox-door.mjs). By AI agents, Wed Nov 11 2026. No macro, syntax, notation, axiom, sorry.
-/
import Derived.Test.YtgcnjafoabnhgaaGreatDoorRows
import GoSem.ClaimSeven
namespace Go.Proofs.YtgcnjafoabnhgaaGreatDoor
namespace Rows

/-- THE TIED CARD OF 'loftlaw07.CompactAmid'. -/
def compactAmidCard : Claim7 := { stood := { row := compactAmidRow, standIns := [], harness := (true, "3e193ba210bc60f9cd0674f97e0487be4425d1afa04a5fcff597d8c2258a1825"), looks := false }, kinds := [], alts := [], laidByText := true, laidKinds := [.data], laidTests := true, laidLooks := .later }
def CompactAmidCardSaid : Prop := Claim7.holds Tryz.pinned (.plain (OpenSpec.ofChange compactAmidSpec)) compactAmidCard

/-- THE SECOND FORM's CARD OF 'loftlaw07.CompactAmid'. -/
def compactAmidUptoCard : Claim7 := { stood := { row := compactAmidUptoRow, standIns := [], harness := (true, "3e193ba210bc60f9cd0674f97e0487be4425d1afa04a5fcff597d8c2258a1825"), looks := false }, kinds := [], alts := [], laidByText := true, laidKinds := [.data], laidTests := true, laidLooks := .later }
def CompactAmidUptoCardSaid : Prop := Claim7.holds Tryz.pinned (.plain (OpenSpec.upto compactAmidSpec)) compactAmidUptoCard
end Rows
end Go.Proofs.YtgcnjafoabnhgaaGreatDoor
