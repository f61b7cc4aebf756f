/-
  DERIVED. GIVEN WITH THE SEED: THE CARDS: each row of YtbbjfebdihepnabGreatDoorRows.lean that lists a variable, with what it lists TIED to the program's text (the seventh form; the later family's looks); each row that meets fmt, with fmt's text TOLD by the authors' own Lean function (tested against real Go, not proved from fmt's source: count such statements apart). THE CARD IS WHAT COUNTS. Prove the row's statement (the work); the ties are given (YtbbjfebdihepnabGreatDoorTie.lean); close each card by the builder's one call (the guide's Derived/Test/ToyasCard.lean, 'card_holds'). Laid BY PROGRAM, IN A SANDBOX (cutbox-door.mjs). By AI agents, Wed Nov 11 2026. No macro, syntax, notation, axiom, sorry.
-/
import Derived.Test.YtbbjfebdihepnabGreatDoorRows
import GoSem.ClaimSeven
namespace Go.Proofs.YtbbjfebdihepnabGreatDoor
namespace Rows

/-- THE TIED CARD OF 'loftlaw11.WalkEmpty'. -/
def walkEmptyCard : Claim7 := { stood := { row := walkEmptyRow, standIns := [], harness := (true, "9f2b5dd9a62f5d71ac86f4e4a270660893002d9f0c296bacc386f5926e6f9342"), looks := false }, kinds := [], alts := [], laidByText := true, laidKinds := [.data], laidTests := true, laidLooks := .later }
def WalkEmptyCardSaid : Prop := Claim7.holds Tryz.pinned (.plain (OpenSpec.ofChange walkEmptySpec)) walkEmptyCard

/-- THE SECOND FORM's CARD OF 'loftlaw11.WalkEmpty'. -/
def walkEmptyUptoCard : Claim7 := { stood := { row := walkEmptyUptoRow, standIns := [], harness := (true, "9f2b5dd9a62f5d71ac86f4e4a270660893002d9f0c296bacc386f5926e6f9342"), looks := false }, kinds := [], alts := [], laidByText := true, laidKinds := [.data], laidTests := true, laidLooks := .later }
def WalkEmptyUptoCardSaid : Prop := Claim7.holds Tryz.pinned (.plain (OpenSpec.upto walkEmptySpec)) walkEmptyUptoCard
end Rows
end Go.Proofs.YtbbjfebdihepnabGreatDoor
