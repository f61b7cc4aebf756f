/-
  DERIVED. GIVEN WITH THE SEED: THE CARDS: each row of YtimedllggcfldaaGreatDoorRows.lean that lists a variable, with what it lists TIED to the program's text (the seventh form; the later family's looks); each row that meets fmt, with fmt's text TOLD by the authors' own Lean function (tested against real Go, not proved from fmt's source: count such statements apart). THE CARD IS WHAT COUNTS. Prove the row's statement (the work); the ties are given (YtimedllggcfldaaGreatDoorTie.lean); close each card by the builder's one call (the guide's Derived/Test/ToyasCard.lean, 'card_holds'). Laid BY PROGRAM, IN A SANDBOX (cutbox-door.mjs). By AI agents, Wed Nov 11 2026. No macro, syntax, notation, axiom, sorry.
-/
import Derived.Test.YtimedllggcfldaaGreatDoorRows
import GoSem.ClaimSeven
namespace Go.Proofs.YtimedllggcfldaaGreatDoor
namespace Rows

/-- THE TIED CARD OF 'loftlaw09.BlobPlays'. -/
def blobPlaysCard : Claim7 := { stood := { row := blobPlaysRow, standIns := [], harness := (true, "95ca2f9cf0a8b9d1c42790ca19aecfdd3d8da3ad000ee0c65bc55f539df5879e"), looks := false }, kinds := [], alts := [], laidByText := true, laidKinds := [.data], laidTests := true, laidLooks := .later }
def BlobPlaysCardSaid : Prop := Claim7.holds Tryz.pinned (.plain (OpenSpec.ofChange blobPlaysSpec)) blobPlaysCard

/-- THE TIED CARD OF 'loftlaw09.BlobCost'. -/
def blobCostCard : Claim7 := { stood := { row := blobCostRow, standIns := [], harness := (true, "95ca2f9cf0a8b9d1c42790ca19aecfdd3d8da3ad000ee0c65bc55f539df5879e"), looks := false }, kinds := [], alts := [], laidByText := true, laidKinds := [.data], laidTests := true, laidLooks := .later }
def BlobCostCardSaid : Prop := Claim7.holds Tryz.pinned (.plain (OpenSpec.ofChange blobCostSpec)) blobCostCard

/-- THE TIED CARD OF 'loftlaw09.BlobBack'. -/
def blobBackCard : Claim7 := { stood := { row := blobBackRow, standIns := [], harness := (true, "95ca2f9cf0a8b9d1c42790ca19aecfdd3d8da3ad000ee0c65bc55f539df5879e"), looks := false }, kinds := [], alts := [], laidByText := true, laidKinds := [.data], laidTests := true, laidLooks := .later }
def BlobBackCardSaid : Prop := Claim7.holds Tryz.pinned (.plain (OpenSpec.ofChange blobBackSpec)) blobBackCard

/-- THE TIED CARD OF 'loftlaw09.BlobRoom'. -/
def blobRoomCard : Claim7 := { stood := { row := blobRoomRow, standIns := [], harness := (true, "95ca2f9cf0a8b9d1c42790ca19aecfdd3d8da3ad000ee0c65bc55f539df5879e"), looks := false }, kinds := [], alts := [], laidByText := true, laidKinds := [.data], laidTests := true, laidLooks := .later }
def BlobRoomCardSaid : Prop := Claim7.holds Tryz.pinned (.plain (OpenSpec.ofChange blobRoomSpec)) blobRoomCard

/-- THE TIED CARD OF 'loftlaw09.BlobOther'. -/
def blobOtherCard : Claim7 := { stood := { row := blobOtherRow, standIns := [], harness := (true, "95ca2f9cf0a8b9d1c42790ca19aecfdd3d8da3ad000ee0c65bc55f539df5879e"), looks := false }, kinds := [], alts := [], laidByText := true, laidKinds := [.data], laidTests := true, laidLooks := .later }
def BlobOtherCardSaid : Prop := Claim7.holds Tryz.pinned (.plain (OpenSpec.ofChange blobOtherSpec)) blobOtherCard

/-- THE TIED CARD OF 'loftlaw09.BlobSame'. -/
def blobSameCard : Claim7 := { stood := { row := blobSameRow, standIns := [], harness := (true, "95ca2f9cf0a8b9d1c42790ca19aecfdd3d8da3ad000ee0c65bc55f539df5879e"), looks := false }, kinds := [], alts := [], laidByText := true, laidKinds := [.data], laidTests := true, laidLooks := .later }
def BlobSameCardSaid : Prop := Claim7.holds Tryz.pinned (.plain (OpenSpec.ofChange blobSameSpec)) blobSameCard

/-- THE SECOND FORM's CARD OF 'loftlaw09.BlobPlays'. -/
def blobPlaysUptoCard : Claim7 := { stood := { row := blobPlaysUptoRow, standIns := [], harness := (true, "95ca2f9cf0a8b9d1c42790ca19aecfdd3d8da3ad000ee0c65bc55f539df5879e"), looks := false }, kinds := [], alts := [], laidByText := true, laidKinds := [.data], laidTests := true, laidLooks := .later }
def BlobPlaysUptoCardSaid : Prop := Claim7.holds Tryz.pinned (.plain (OpenSpec.upto blobPlaysSpec)) blobPlaysUptoCard

/-- THE SECOND FORM's CARD OF 'loftlaw09.BlobCost'. -/
def blobCostUptoCard : Claim7 := { stood := { row := blobCostUptoRow, standIns := [], harness := (true, "95ca2f9cf0a8b9d1c42790ca19aecfdd3d8da3ad000ee0c65bc55f539df5879e"), looks := false }, kinds := [], alts := [], laidByText := true, laidKinds := [.data], laidTests := true, laidLooks := .later }
def BlobCostUptoCardSaid : Prop := Claim7.holds Tryz.pinned (.plain (OpenSpec.upto blobCostSpec)) blobCostUptoCard

/-- THE SECOND FORM's CARD OF 'loftlaw09.BlobBack'. -/
def blobBackUptoCard : Claim7 := { stood := { row := blobBackUptoRow, standIns := [], harness := (true, "95ca2f9cf0a8b9d1c42790ca19aecfdd3d8da3ad000ee0c65bc55f539df5879e"), looks := false }, kinds := [], alts := [], laidByText := true, laidKinds := [.data], laidTests := true, laidLooks := .later }
def BlobBackUptoCardSaid : Prop := Claim7.holds Tryz.pinned (.plain (OpenSpec.upto blobBackSpec)) blobBackUptoCard

/-- THE SECOND FORM's CARD OF 'loftlaw09.BlobRoom'. -/
def blobRoomUptoCard : Claim7 := { stood := { row := blobRoomUptoRow, standIns := [], harness := (true, "95ca2f9cf0a8b9d1c42790ca19aecfdd3d8da3ad000ee0c65bc55f539df5879e"), looks := false }, kinds := [], alts := [], laidByText := true, laidKinds := [.data], laidTests := true, laidLooks := .later }
def BlobRoomUptoCardSaid : Prop := Claim7.holds Tryz.pinned (.plain (OpenSpec.upto blobRoomSpec)) blobRoomUptoCard

/-- THE SECOND FORM's CARD OF 'loftlaw09.BlobOther'. -/
def blobOtherUptoCard : Claim7 := { stood := { row := blobOtherUptoRow, standIns := [], harness := (true, "95ca2f9cf0a8b9d1c42790ca19aecfdd3d8da3ad000ee0c65bc55f539df5879e"), looks := false }, kinds := [], alts := [], laidByText := true, laidKinds := [.data], laidTests := true, laidLooks := .later }
def BlobOtherUptoCardSaid : Prop := Claim7.holds Tryz.pinned (.plain (OpenSpec.upto blobOtherSpec)) blobOtherUptoCard

/-- THE SECOND FORM's CARD OF 'loftlaw09.BlobSame'. -/
def blobSameUptoCard : Claim7 := { stood := { row := blobSameUptoRow, standIns := [], harness := (true, "95ca2f9cf0a8b9d1c42790ca19aecfdd3d8da3ad000ee0c65bc55f539df5879e"), looks := false }, kinds := [], alts := [], laidByText := true, laidKinds := [.data], laidTests := true, laidLooks := .later }
def BlobSameUptoCardSaid : Prop := Claim7.holds Tryz.pinned (.plain (OpenSpec.upto blobSameSpec)) blobSameUptoCard
end Rows
end Go.Proofs.YtimedllggcfldaaGreatDoor
