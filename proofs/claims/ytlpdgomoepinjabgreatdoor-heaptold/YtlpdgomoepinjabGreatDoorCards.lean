/-
  DERIVED. GIVEN WITH THE SEED: THE CARDS: each row of YtlpdgomoepinjabGreatDoorRows.lean that lists a variable, with what it lists TIED to the program's text (the seventh form; the later family's looks); each row that meets fmt, with fmt's text TOLD by the authors' own Lean function (tested against real Go, not proved from fmt's source: count such statements apart). THE CARD IS WHAT COUNTS. Prove the row's statement (the work); the ties are given (YtlpdgomoepinjabGreatDoorTie.lean); close each card by the builder's one call (the guide's Derived/Test/ToyasCard.lean, 'card_holds'). Laid BY PROGRAM, IN A SANDBOX (cutbox-door.mjs). By AI agents, Wed Nov 11 2026. No macro, syntax, notation, axiom, sorry.
-/
import Derived.Test.YtlpdgomoepinjabGreatDoorRows
import GoSem.ClaimSeven
namespace Go.Proofs.YtlpdgomoepinjabGreatDoor
namespace Rows

/-- THE TIED CARD OF 'loftlaw04.HeapTold'. -/
def heapToldCard : Claim7 := { stood := { row := heapToldRow, standIns := [], harness := (true, "33e47479a397f49085b749995fbafbffdf92fd989e6d0360ad016df45689905a"), looks := false }, kinds := [], alts := [], laidByText := true, laidKinds := [.data], laidTests := true, laidLooks := .later }
def HeapToldCardSaid : Prop := Claim7.holds Tryz.pinned (.plain (OpenSpec.ofChange heapToldSpec)) heapToldCard

/-- THE SECOND FORM's CARD OF 'loftlaw04.HeapTold'. -/
def heapToldUptoCard : Claim7 := { stood := { row := heapToldUptoRow, standIns := [], harness := (true, "33e47479a397f49085b749995fbafbffdf92fd989e6d0360ad016df45689905a"), looks := false }, kinds := [], alts := [], laidByText := true, laidKinds := [.data], laidTests := true, laidLooks := .later }
def HeapToldUptoCardSaid : Prop := Claim7.holds Tryz.pinned (.plain (OpenSpec.upto heapToldSpec)) heapToldUptoCard
end Rows
end Go.Proofs.YtlpdgomoepinjabGreatDoor
