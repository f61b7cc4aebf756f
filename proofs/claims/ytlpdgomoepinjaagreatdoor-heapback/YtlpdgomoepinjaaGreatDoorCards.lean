/-
  DERIVED. GIVEN WITH THE SEED: THE CARDS: each row of YtlpdgomoepinjaaGreatDoorRows.lean that lists a variable, with what it lists TIED to the program's text (the seventh form; the later family's looks); each row that meets fmt, with fmt's text TOLD by the authors' own Lean function (tested against real Go, not proved from fmt's source: count such statements apart). THE CARD IS WHAT COUNTS. Prove the row's statement (the work); the ties are given (YtlpdgomoepinjaaGreatDoorTie.lean); close each card by the builder's one call (the guide's Derived/Test/ToyasCard.lean, 'card_holds'). Laid BY PROGRAM, IN A SANDBOX (cutbox-door.mjs). By AI agents, Wed Nov 11 2026. No macro, syntax, notation, axiom, sorry.
-/
import Derived.Test.YtlpdgomoepinjaaGreatDoorRows
import GoSem.ClaimSeven
namespace Go.Proofs.YtlpdgomoepinjaaGreatDoor
namespace Rows

/-- THE TIED CARD OF 'loftlaw04.HeapPlays'. -/
def heapPlaysCard : Claim7 := { stood := { row := heapPlaysRow, standIns := [], harness := (true, "89cf95d6b486f9d04bd9bb4754c263442f86555faa5b363858e08f9b5df25285"), looks := false }, kinds := [], alts := [], laidByText := true, laidKinds := [.data], laidTests := true, laidLooks := .later }
def HeapPlaysCardSaid : Prop := Claim7.holds Tryz.pinned (.plain (OpenSpec.ofChange heapPlaysSpec)) heapPlaysCard

/-- THE TIED CARD OF 'loftlaw04.HeapNone'. -/
def heapNoneCard : Claim7 := { stood := { row := heapNoneRow, standIns := [], harness := (true, "89cf95d6b486f9d04bd9bb4754c263442f86555faa5b363858e08f9b5df25285"), looks := false }, kinds := [], alts := [], laidByText := true, laidKinds := [.data], laidTests := true, laidLooks := .later }
def HeapNoneCardSaid : Prop := Claim7.holds Tryz.pinned (.plain (OpenSpec.ofChange heapNoneSpec)) heapNoneCard

/-- THE TIED CARD OF 'loftlaw04.HeapSlides'. -/
def heapSlidesCard : Claim7 := { stood := { row := heapSlidesRow, standIns := [], harness := (true, "89cf95d6b486f9d04bd9bb4754c263442f86555faa5b363858e08f9b5df25285"), looks := false }, kinds := [], alts := [], laidByText := true, laidKinds := [.data], laidTests := true, laidLooks := .later }
def HeapSlidesCardSaid : Prop := Claim7.holds Tryz.pinned (.plain (OpenSpec.ofChange heapSlidesSpec)) heapSlidesCard

/-- THE TIED CARD OF 'loftlaw04.HeapBack'. -/
def heapBackCard : Claim7 := { stood := { row := heapBackRow, standIns := [], harness := (true, "89cf95d6b486f9d04bd9bb4754c263442f86555faa5b363858e08f9b5df25285"), looks := false }, kinds := [], alts := [], laidByText := true, laidKinds := [.data], laidTests := true, laidLooks := .later }
def HeapBackCardSaid : Prop := Claim7.holds Tryz.pinned (.plain (OpenSpec.ofChange heapBackSpec)) heapBackCard

/-- THE TIED CARD OF 'loftlaw04.HeapAny'. -/
def heapAnyCard : Claim7 := { stood := { row := heapAnyRow, standIns := [], harness := (true, "89cf95d6b486f9d04bd9bb4754c263442f86555faa5b363858e08f9b5df25285"), looks := false }, kinds := [], alts := [], laidByText := true, laidKinds := [.data], laidTests := true, laidLooks := .later }
def HeapAnyCardSaid : Prop := Claim7.holds Tryz.pinned (.plain (OpenSpec.ofChange heapAnySpec)) heapAnyCard

/-- THE SECOND FORM's CARD OF 'loftlaw04.HeapPlays'. -/
def heapPlaysUptoCard : Claim7 := { stood := { row := heapPlaysUptoRow, standIns := [], harness := (true, "89cf95d6b486f9d04bd9bb4754c263442f86555faa5b363858e08f9b5df25285"), looks := false }, kinds := [], alts := [], laidByText := true, laidKinds := [.data], laidTests := true, laidLooks := .later }
def HeapPlaysUptoCardSaid : Prop := Claim7.holds Tryz.pinned (.plain (OpenSpec.upto heapPlaysSpec)) heapPlaysUptoCard

/-- THE SECOND FORM's CARD OF 'loftlaw04.HeapNone'. -/
def heapNoneUptoCard : Claim7 := { stood := { row := heapNoneUptoRow, standIns := [], harness := (true, "89cf95d6b486f9d04bd9bb4754c263442f86555faa5b363858e08f9b5df25285"), looks := false }, kinds := [], alts := [], laidByText := true, laidKinds := [.data], laidTests := true, laidLooks := .later }
def HeapNoneUptoCardSaid : Prop := Claim7.holds Tryz.pinned (.plain (OpenSpec.upto heapNoneSpec)) heapNoneUptoCard

/-- THE SECOND FORM's CARD OF 'loftlaw04.HeapSlides'. -/
def heapSlidesUptoCard : Claim7 := { stood := { row := heapSlidesUptoRow, standIns := [], harness := (true, "89cf95d6b486f9d04bd9bb4754c263442f86555faa5b363858e08f9b5df25285"), looks := false }, kinds := [], alts := [], laidByText := true, laidKinds := [.data], laidTests := true, laidLooks := .later }
def HeapSlidesUptoCardSaid : Prop := Claim7.holds Tryz.pinned (.plain (OpenSpec.upto heapSlidesSpec)) heapSlidesUptoCard

/-- THE SECOND FORM's CARD OF 'loftlaw04.HeapBack'. -/
def heapBackUptoCard : Claim7 := { stood := { row := heapBackUptoRow, standIns := [], harness := (true, "89cf95d6b486f9d04bd9bb4754c263442f86555faa5b363858e08f9b5df25285"), looks := false }, kinds := [], alts := [], laidByText := true, laidKinds := [.data], laidTests := true, laidLooks := .later }
def HeapBackUptoCardSaid : Prop := Claim7.holds Tryz.pinned (.plain (OpenSpec.upto heapBackSpec)) heapBackUptoCard

/-- THE SECOND FORM's CARD OF 'loftlaw04.HeapAny'. -/
def heapAnyUptoCard : Claim7 := { stood := { row := heapAnyUptoRow, standIns := [], harness := (true, "89cf95d6b486f9d04bd9bb4754c263442f86555faa5b363858e08f9b5df25285"), looks := false }, kinds := [], alts := [], laidByText := true, laidKinds := [.data], laidTests := true, laidLooks := .later }
def HeapAnyUptoCardSaid : Prop := Claim7.holds Tryz.pinned (.plain (OpenSpec.upto heapAnySpec)) heapAnyUptoCard
end Rows
end Go.Proofs.YtlpdgomoepinjaaGreatDoor
