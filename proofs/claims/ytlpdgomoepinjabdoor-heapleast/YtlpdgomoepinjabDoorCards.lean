/-
  DERIVED. GIVEN WITH THE SEED: THE CARDS: each row of YtlpdgomoepinjabDoorRows.lean that lists a variable, with what it lists TIED to the program's text (the seventh form; the later family's looks); each row that meets fmt, with fmt's text TOLD by the authors' own Lean function (tested against real Go, not proved from fmt's source: count such statements apart). THE CARD IS WHAT COUNTS. Prove the row's statement (the work); the ties are given (YtlpdgomoepinjabDoorTie.lean); close each card by the builder's one call (the guide's Derived/Test/ToyasCard.lean, 'card_holds'). Laid BY PROGRAM, IN A SANDBOX (cutbox-door.mjs). By AI agents, Wed Nov 11 2026. No macro, syntax, notation, axiom, sorry.
-/
import Derived.Test.YtlpdgomoepinjabDoorRows
import GoSem.ClaimSeven
namespace Go.Proofs.YtlpdgomoepinjabDoor
namespace Rows

/-- THE TIED CARD OF 'loftlaw04.HeapLeast'. -/
def heapLeastCard : Claim7 := { stood := { row := heapLeastRow, standIns := [], harness := (true, "6e872e622d65cb634845f2294d8e8ca5884b65eec1c0ba00859dd4ed67ea30b7"), looks := false }, kinds := [], alts := [], laidByText := true, laidKinds := [.data], laidTests := true, laidLooks := .later }
def HeapLeastCardSaid : Prop := Claim7.holds Tryd.pinned (.plain (OpenSpec.ofChange heapLeastSpec)) heapLeastCard

/-- THE SECOND FORM's CARD OF 'loftlaw04.HeapLeast'. -/
def heapLeastUptoCard : Claim7 := { stood := { row := heapLeastUptoRow, standIns := [], harness := (true, "6e872e622d65cb634845f2294d8e8ca5884b65eec1c0ba00859dd4ed67ea30b7"), looks := false }, kinds := [], alts := [], laidByText := true, laidKinds := [.data], laidTests := true, laidLooks := .later }
def HeapLeastUptoCardSaid : Prop := Claim7.holds Tryd.pinned (.plain (OpenSpec.upto heapLeastSpec)) heapLeastUptoCard
end Rows
end Go.Proofs.YtlpdgomoepinjabDoor
