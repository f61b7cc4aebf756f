/-
  DERIVED. GIVEN WITH THE SEED: THE CARDS: each row of YtpaghflclbaljaaGreatDoorRows.lean that lists a variable, with what it lists TIED to the program's text (the seventh form; the later family's looks); each row that meets fmt, with fmt's text TOLD by the authors' own Lean function (tested against real Go, not proved from fmt's source: count such statements apart). THE CARD IS WHAT COUNTS. Prove the row's statement (the work); the ties are given (YtpaghflclbaljaaGreatDoorTie.lean); close each card by the builder's one call (the guide's Derived/Test/ToyasCard.lean, 'card_holds'). Laid BY PROGRAM, IN A SANDBOX (cutbox-door.mjs). By AI agents, Wed Nov 11 2026. No macro, syntax, notation, axiom, sorry.
-/
import Derived.Test.YtpaghflclbaljaaGreatDoorRows
import GoSem.ClaimSeven
namespace Go.Proofs.YtpaghflclbaljaaGreatDoor
namespace Rows

/-- THE TIED CARD OF 'loftlaw07.CompactPlays'. -/
def compactPlaysCard : Claim7 := { stood := { row := compactPlaysRow, standIns := [], harness := (true, "558e8f28c4f0fed9694996fd088b290531c7a967302d7fd97dcf0384d772ee66"), looks := false }, kinds := [], alts := [], laidByText := true, laidKinds := [.data], laidTests := true, laidLooks := .later }
def CompactPlaysCardSaid : Prop := Claim7.holds Tryz.pinned (.plain (OpenSpec.ofChange compactPlaysSpec)) compactPlaysCard

/-- THE TIED CARD OF 'loftlaw07.CompactNone'. -/
def compactNoneCard : Claim7 := { stood := { row := compactNoneRow, standIns := [], harness := (true, "558e8f28c4f0fed9694996fd088b290531c7a967302d7fd97dcf0384d772ee66"), looks := false }, kinds := [], alts := [], laidByText := true, laidKinds := [.data], laidTests := true, laidLooks := .later }
def CompactNoneCardSaid : Prop := Claim7.holds Tryz.pinned (.plain (OpenSpec.ofChange compactNoneSpec)) compactNoneCard

/-- THE TIED CARD OF 'loftlaw07.CompactEnds'. -/
def compactEndsCard : Claim7 := { stood := { row := compactEndsRow, standIns := [], harness := (true, "558e8f28c4f0fed9694996fd088b290531c7a967302d7fd97dcf0384d772ee66"), looks := false }, kinds := [], alts := [], laidByText := true, laidKinds := [.data], laidTests := true, laidLooks := .later }
def CompactEndsCardSaid : Prop := Claim7.holds Tryz.pinned (.plain (OpenSpec.ofChange compactEndsSpec)) compactEndsCard

/-- THE TIED CARD OF 'loftlaw07.CompactParts'. -/
def compactPartsCard : Claim7 := { stood := { row := compactPartsRow, standIns := [], harness := (true, "558e8f28c4f0fed9694996fd088b290531c7a967302d7fd97dcf0384d772ee66"), looks := false }, kinds := [], alts := [], laidByText := true, laidKinds := [.data], laidTests := true, laidLooks := .later }
def CompactPartsCardSaid : Prop := Claim7.holds Tryz.pinned (.plain (OpenSpec.ofChange compactPartsSpec)) compactPartsCard

/-- THE TIED CARD OF 'loftlaw07.CompactNoMore'. -/
def compactNoMoreCard : Claim7 := { stood := { row := compactNoMoreRow, standIns := [], harness := (true, "558e8f28c4f0fed9694996fd088b290531c7a967302d7fd97dcf0384d772ee66"), looks := false }, kinds := [], alts := [], laidByText := true, laidKinds := [.data], laidTests := true, laidLooks := .later }
def CompactNoMoreCardSaid : Prop := Claim7.holds Tryz.pinned (.plain (OpenSpec.ofChange compactNoMoreSpec)) compactNoMoreCard

/-- THE TIED CARD OF 'loftlaw07.CompactAmid'. -/
def compactAmidCard : Claim7 := { stood := { row := compactAmidRow, standIns := [], harness := (true, "558e8f28c4f0fed9694996fd088b290531c7a967302d7fd97dcf0384d772ee66"), looks := false }, kinds := [], alts := [], laidByText := true, laidKinds := [.data], laidTests := true, laidLooks := .later }
def CompactAmidCardSaid : Prop := Claim7.holds Tryz.pinned (.plain (OpenSpec.ofChange compactAmidSpec)) compactAmidCard

/-- THE SECOND FORM's CARD OF 'loftlaw07.CompactPlays'. -/
def compactPlaysUptoCard : Claim7 := { stood := { row := compactPlaysUptoRow, standIns := [], harness := (true, "558e8f28c4f0fed9694996fd088b290531c7a967302d7fd97dcf0384d772ee66"), looks := false }, kinds := [], alts := [], laidByText := true, laidKinds := [.data], laidTests := true, laidLooks := .later }
def CompactPlaysUptoCardSaid : Prop := Claim7.holds Tryz.pinned (.plain (OpenSpec.upto compactPlaysSpec)) compactPlaysUptoCard

/-- THE SECOND FORM's CARD OF 'loftlaw07.CompactNone'. -/
def compactNoneUptoCard : Claim7 := { stood := { row := compactNoneUptoRow, standIns := [], harness := (true, "558e8f28c4f0fed9694996fd088b290531c7a967302d7fd97dcf0384d772ee66"), looks := false }, kinds := [], alts := [], laidByText := true, laidKinds := [.data], laidTests := true, laidLooks := .later }
def CompactNoneUptoCardSaid : Prop := Claim7.holds Tryz.pinned (.plain (OpenSpec.upto compactNoneSpec)) compactNoneUptoCard

/-- THE SECOND FORM's CARD OF 'loftlaw07.CompactEnds'. -/
def compactEndsUptoCard : Claim7 := { stood := { row := compactEndsUptoRow, standIns := [], harness := (true, "558e8f28c4f0fed9694996fd088b290531c7a967302d7fd97dcf0384d772ee66"), looks := false }, kinds := [], alts := [], laidByText := true, laidKinds := [.data], laidTests := true, laidLooks := .later }
def CompactEndsUptoCardSaid : Prop := Claim7.holds Tryz.pinned (.plain (OpenSpec.upto compactEndsSpec)) compactEndsUptoCard

/-- THE SECOND FORM's CARD OF 'loftlaw07.CompactParts'. -/
def compactPartsUptoCard : Claim7 := { stood := { row := compactPartsUptoRow, standIns := [], harness := (true, "558e8f28c4f0fed9694996fd088b290531c7a967302d7fd97dcf0384d772ee66"), looks := false }, kinds := [], alts := [], laidByText := true, laidKinds := [.data], laidTests := true, laidLooks := .later }
def CompactPartsUptoCardSaid : Prop := Claim7.holds Tryz.pinned (.plain (OpenSpec.upto compactPartsSpec)) compactPartsUptoCard

/-- THE SECOND FORM's CARD OF 'loftlaw07.CompactNoMore'. -/
def compactNoMoreUptoCard : Claim7 := { stood := { row := compactNoMoreUptoRow, standIns := [], harness := (true, "558e8f28c4f0fed9694996fd088b290531c7a967302d7fd97dcf0384d772ee66"), looks := false }, kinds := [], alts := [], laidByText := true, laidKinds := [.data], laidTests := true, laidLooks := .later }
def CompactNoMoreUptoCardSaid : Prop := Claim7.holds Tryz.pinned (.plain (OpenSpec.upto compactNoMoreSpec)) compactNoMoreUptoCard

/-- THE SECOND FORM's CARD OF 'loftlaw07.CompactAmid'. -/
def compactAmidUptoCard : Claim7 := { stood := { row := compactAmidUptoRow, standIns := [], harness := (true, "558e8f28c4f0fed9694996fd088b290531c7a967302d7fd97dcf0384d772ee66"), looks := false }, kinds := [], alts := [], laidByText := true, laidKinds := [.data], laidTests := true, laidLooks := .later }
def CompactAmidUptoCardSaid : Prop := Claim7.holds Tryz.pinned (.plain (OpenSpec.upto compactAmidSpec)) compactAmidUptoCard
end Rows
end Go.Proofs.YtpaghflclbaljaaGreatDoor
