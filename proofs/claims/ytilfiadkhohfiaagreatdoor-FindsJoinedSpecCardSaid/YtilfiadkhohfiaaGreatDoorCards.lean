/-
  DERIVED. GIVEN WITH THE SEED: THE CARDS: each row of YtilfiadkhohfiaaGreatDoorRows.lean that lists a variable, with what it lists TIED to the program's text (the seventh form; the later family's looks); each row that meets fmt, with fmt's text TOLD by the authors' own Lean function (tested against real Go, not proved from fmt's source: count such statements apart). THE CARD IS WHAT COUNTS. Prove the row's statement (the work); the ties are given (YtilfiadkhohfiaaGreatDoorTie.lean); close each card by the builder's one call (the guide's Derived/Test/ToyasCard.lean, 'card_holds'). Laid BY PROGRAM, IN A SANDBOX (cutbox-door.mjs). By AI agents, Wed Nov 11 2026. No macro, syntax, notation, axiom, sorry.
-/
import Derived.Test.YtilfiadkhohfiaaGreatDoorRows
import GoSem.ClaimSeven
namespace Go.Proofs.YtilfiadkhohfiaaGreatDoor
namespace Rows

/-- THE TIED CARD OF 'bonehouselaw02.FindsCheckSpec'. -/
def findsCheckSpecCard : Claim7 := { stood := { row := findsCheckSpecRow, standIns := [], harness := (true, "e8958d2450d07666e5a4d07f1032750e0eb83961526753bde968d853f5ff2f01"), looks := true }, kinds := [], alts := [], laidByText := true, laidKinds := [.data, .data, .data], laidTests := true, laidLooks := .later }
def FindsCheckSpecCardSaid : Prop := Claim7.holds Tryz.pinned (.plain (OpenSpec.ofChange findsCheckSpecSpec)) findsCheckSpecCard

/-- THE TIED CARD OF 'bonehouselaw02.FindsEnterSpec'. -/
def findsEnterSpecCard : Claim7 := { stood := { row := findsEnterSpecRow, standIns := [], harness := (true, "e8958d2450d07666e5a4d07f1032750e0eb83961526753bde968d853f5ff2f01"), looks := true }, kinds := [], alts := [], laidByText := true, laidKinds := [.data, .data, .data], laidTests := true, laidLooks := .later }
def FindsEnterSpecCardSaid : Prop := Claim7.holds Tryz.pinned (.plain (OpenSpec.ofChange findsEnterSpecSpec)) findsEnterSpecCard

/-- THE TIED CARD OF 'bonehouselaw02.FindsAtSpec'. -/
def findsAtSpecCard : Claim7 := { stood := { row := findsAtSpecRow, standIns := [], harness := (true, "e8958d2450d07666e5a4d07f1032750e0eb83961526753bde968d853f5ff2f01"), looks := true }, kinds := [], alts := [], laidByText := true, laidKinds := [.data, .data, .data], laidTests := true, laidLooks := .later }
def FindsAtSpecCardSaid : Prop := Claim7.holds Tryz.pinned (.plain (OpenSpec.ofChange findsAtSpecSpec)) findsAtSpecCard

/-- THE TIED CARD OF 'bonehouselaw02.FindsPartsSpec'. -/
def findsPartsSpecCard : Claim7 := { stood := { row := findsPartsSpecRow, standIns := [], harness := (true, "e8958d2450d07666e5a4d07f1032750e0eb83961526753bde968d853f5ff2f01"), looks := true }, kinds := [], alts := [], laidByText := true, laidKinds := [.data, .data, .data], laidTests := true, laidLooks := .later }
def FindsPartsSpecCardSaid : Prop := Claim7.holds Tryz.pinned (.plain (OpenSpec.ofChange findsPartsSpecSpec)) findsPartsSpecCard

/-- THE TIED CARD OF 'bonehouselaw02.FindsLineageSpec'. -/
def findsLineageSpecCard : Claim7 := { stood := { row := findsLineageSpecRow, standIns := [], harness := (true, "e8958d2450d07666e5a4d07f1032750e0eb83961526753bde968d853f5ff2f01"), looks := true }, kinds := [], alts := [], laidByText := true, laidKinds := [.data, .data, .data], laidTests := true, laidLooks := .later }
def FindsLineageSpecCardSaid : Prop := Claim7.holds Tryz.pinned (.plain (OpenSpec.ofChange findsLineageSpecSpec)) findsLineageSpecCard

/-- THE TIED CARD OF 'bonehouselaw02.FindsJoinedSpec'. -/
def findsJoinedSpecCard : Claim7 := { stood := { row := findsJoinedSpecRow, standIns := [], harness := (true, "e8958d2450d07666e5a4d07f1032750e0eb83961526753bde968d853f5ff2f01"), looks := true }, kinds := [], alts := [], laidByText := true, laidKinds := [.data, .data, .data], laidTests := true, laidLooks := .later }
def FindsJoinedSpecCardSaid : Prop := Claim7.holds Tryz.pinned (.plain (OpenSpec.ofChange findsJoinedSpecSpec)) findsJoinedSpecCard

/-- THE TIED CARD OF 'bonehouselaw02.FindsTexts'. -/
def findsTextsCard : Claim7 := { stood := { row := findsTextsRow, standIns := [], harness := (true, "e8958d2450d07666e5a4d07f1032750e0eb83961526753bde968d853f5ff2f01"), looks := true }, kinds := [], alts := [], laidByText := true, laidKinds := [.data, .data, .data, .data, .sentinel, .sentinel, .pinned], laidTests := true, laidLooks := .later }
def FindsTextsCardSaid : Prop := Claim7.holds Tryz.pinned (.plain (OpenSpec.ofChange findsTextsSpec)) findsTextsCard

/-- THE TIED CARD OF 'bonehouselaw02.FindsUntouched'. -/
def findsUntouchedCard : Claim7 := { stood := { row := findsUntouchedRow, standIns := [], harness := (true, "e8958d2450d07666e5a4d07f1032750e0eb83961526753bde968d853f5ff2f01"), looks := true }, kinds := [], alts := [], laidByText := true, laidKinds := [.data, .data, .data], laidTests := true, laidLooks := .later }
def FindsUntouchedCardSaid : Prop := Claim7.holds Tryz.pinned (.plain (OpenSpec.ofChange findsUntouchedSpec)) findsUntouchedCard

/-- THE TIED CARD OF 'bonehouselaw02.FindsSplit'. -/
def findsSplitCard : Claim7 := { stood := { row := findsSplitRow, standIns := [], harness := (true, "e8958d2450d07666e5a4d07f1032750e0eb83961526753bde968d853f5ff2f01"), looks := true }, kinds := [], alts := [], laidByText := true, laidKinds := [.data, .data, .data], laidTests := true, laidLooks := .later }
def FindsSplitCardSaid : Prop := Claim7.holds Tryz.pinned (.plain (OpenSpec.ofChange findsSplitSpec)) findsSplitCard

/-- THE TIED CARD OF 'bonehouselaw02.FindsLeaves'. -/
def findsLeavesCard : Claim7 := { stood := { row := findsLeavesRow, standIns := [], harness := (true, "e8958d2450d07666e5a4d07f1032750e0eb83961526753bde968d853f5ff2f01"), looks := true }, kinds := [], alts := [], laidByText := true, laidKinds := [.data, .data, .data], laidTests := true, laidLooks := .later }
def FindsLeavesCardSaid : Prop := Claim7.holds Tryz.pinned (.plain (OpenSpec.ofChange findsLeavesSpec)) findsLeavesCard

/-- THE TIED CARD OF 'bonehouselaw02.FindsKnown'. -/
def findsKnownCard : Claim7 := { stood := { row := findsKnownRow, standIns := [], harness := (true, "e8958d2450d07666e5a4d07f1032750e0eb83961526753bde968d853f5ff2f01"), looks := true }, kinds := [], alts := [], laidByText := true, laidKinds := [.data, .data, .data], laidTests := true, laidLooks := .later }
def FindsKnownCardSaid : Prop := Claim7.holds Tryz.pinned (.plain (OpenSpec.ofChange findsKnownSpec)) findsKnownCard

/-- THE TIED CARD OF 'bonehouselaw02.FindsJoined'. -/
def findsJoinedCard : Claim7 := { stood := { row := findsJoinedRow, standIns := [], harness := (true, "e8958d2450d07666e5a4d07f1032750e0eb83961526753bde968d853f5ff2f01"), looks := true }, kinds := [], alts := [], laidByText := true, laidKinds := [.data, .data, .data], laidTests := true, laidLooks := .later }
def FindsJoinedCardSaid : Prop := Claim7.holds Tryz.pinned (.plain (OpenSpec.ofChange findsJoinedSpec)) findsJoinedCard

/-- THE TIED CARD OF 'bonehouselaw02.FindsOverlap'. -/
def findsOverlapCard : Claim7 := { stood := { row := findsOverlapRow, standIns := [], harness := (true, "e8958d2450d07666e5a4d07f1032750e0eb83961526753bde968d853f5ff2f01"), looks := true }, kinds := [], alts := [], laidByText := true, laidKinds := [.data, .data, .data], laidTests := true, laidLooks := .later }
def FindsOverlapCardSaid : Prop := Claim7.holds Tryz.pinned (.plain (OpenSpec.ofChange findsOverlapSpec)) findsOverlapCard

/-- THE TIED CARD OF 'bonehouselaw02.FindsApart'. -/
def findsApartCard : Claim7 := { stood := { row := findsApartRow, standIns := [], harness := (true, "e8958d2450d07666e5a4d07f1032750e0eb83961526753bde968d853f5ff2f01"), looks := true }, kinds := [], alts := [], laidByText := true, laidKinds := [.data, .data, .data], laidTests := true, laidLooks := .later }
def FindsApartCardSaid : Prop := Claim7.holds Tryz.pinned (.plain (OpenSpec.ofChange findsApartSpec)) findsApartCard

/-- THE TIED CARD OF 'bonehouselaw02.FindsDeeds'. -/
def findsDeedsCard : Claim7 := { stood := { row := findsDeedsRow, standIns := [], harness := (true, "e8958d2450d07666e5a4d07f1032750e0eb83961526753bde968d853f5ff2f01"), looks := true }, kinds := [], alts := [], laidByText := true, laidKinds := [.data, .data, .data], laidTests := true, laidLooks := .later }
def FindsDeedsCardSaid : Prop := Claim7.holds Tryz.pinned (.plain (OpenSpec.ofChange findsDeedsSpec)) findsDeedsCard

/-- THE SECOND FORM's CARD OF 'bonehouselaw02.FindsCheckSpec'. -/
def findsCheckSpecUptoCard : Claim7 := { stood := { row := findsCheckSpecUptoRow, standIns := [], harness := (true, "e8958d2450d07666e5a4d07f1032750e0eb83961526753bde968d853f5ff2f01"), looks := true }, kinds := [], alts := [], laidByText := true, laidKinds := [.data, .data, .data], laidTests := true, laidLooks := .later }
def FindsCheckSpecUptoCardSaid : Prop := Claim7.holds Tryz.pinned (.plain (OpenSpec.upto findsCheckSpecSpec)) findsCheckSpecUptoCard

/-- THE SECOND FORM's CARD OF 'bonehouselaw02.FindsEnterSpec'. -/
def findsEnterSpecUptoCard : Claim7 := { stood := { row := findsEnterSpecUptoRow, standIns := [], harness := (true, "e8958d2450d07666e5a4d07f1032750e0eb83961526753bde968d853f5ff2f01"), looks := true }, kinds := [], alts := [], laidByText := true, laidKinds := [.data, .data, .data], laidTests := true, laidLooks := .later }
def FindsEnterSpecUptoCardSaid : Prop := Claim7.holds Tryz.pinned (.plain (OpenSpec.upto findsEnterSpecSpec)) findsEnterSpecUptoCard

/-- THE SECOND FORM's CARD OF 'bonehouselaw02.FindsAtSpec'. -/
def findsAtSpecUptoCard : Claim7 := { stood := { row := findsAtSpecUptoRow, standIns := [], harness := (true, "e8958d2450d07666e5a4d07f1032750e0eb83961526753bde968d853f5ff2f01"), looks := true }, kinds := [], alts := [], laidByText := true, laidKinds := [.data, .data, .data], laidTests := true, laidLooks := .later }
def FindsAtSpecUptoCardSaid : Prop := Claim7.holds Tryz.pinned (.plain (OpenSpec.upto findsAtSpecSpec)) findsAtSpecUptoCard

/-- THE SECOND FORM's CARD OF 'bonehouselaw02.FindsPartsSpec'. -/
def findsPartsSpecUptoCard : Claim7 := { stood := { row := findsPartsSpecUptoRow, standIns := [], harness := (true, "e8958d2450d07666e5a4d07f1032750e0eb83961526753bde968d853f5ff2f01"), looks := true }, kinds := [], alts := [], laidByText := true, laidKinds := [.data, .data, .data], laidTests := true, laidLooks := .later }
def FindsPartsSpecUptoCardSaid : Prop := Claim7.holds Tryz.pinned (.plain (OpenSpec.upto findsPartsSpecSpec)) findsPartsSpecUptoCard

/-- THE SECOND FORM's CARD OF 'bonehouselaw02.FindsLineageSpec'. -/
def findsLineageSpecUptoCard : Claim7 := { stood := { row := findsLineageSpecUptoRow, standIns := [], harness := (true, "e8958d2450d07666e5a4d07f1032750e0eb83961526753bde968d853f5ff2f01"), looks := true }, kinds := [], alts := [], laidByText := true, laidKinds := [.data, .data, .data], laidTests := true, laidLooks := .later }
def FindsLineageSpecUptoCardSaid : Prop := Claim7.holds Tryz.pinned (.plain (OpenSpec.upto findsLineageSpecSpec)) findsLineageSpecUptoCard

/-- THE SECOND FORM's CARD OF 'bonehouselaw02.FindsJoinedSpec'. -/
def findsJoinedSpecUptoCard : Claim7 := { stood := { row := findsJoinedSpecUptoRow, standIns := [], harness := (true, "e8958d2450d07666e5a4d07f1032750e0eb83961526753bde968d853f5ff2f01"), looks := true }, kinds := [], alts := [], laidByText := true, laidKinds := [.data, .data, .data], laidTests := true, laidLooks := .later }
def FindsJoinedSpecUptoCardSaid : Prop := Claim7.holds Tryz.pinned (.plain (OpenSpec.upto findsJoinedSpecSpec)) findsJoinedSpecUptoCard

/-- THE SECOND FORM's CARD OF 'bonehouselaw02.FindsTexts'. -/
def findsTextsUptoCard : Claim7 := { stood := { row := findsTextsUptoRow, standIns := [], harness := (true, "e8958d2450d07666e5a4d07f1032750e0eb83961526753bde968d853f5ff2f01"), looks := true }, kinds := [], alts := [], laidByText := true, laidKinds := [.data, .data, .data, .data, .sentinel, .sentinel, .pinned], laidTests := true, laidLooks := .later }
def FindsTextsUptoCardSaid : Prop := Claim7.holds Tryz.pinned (.plain (OpenSpec.upto findsTextsSpec)) findsTextsUptoCard

/-- THE SECOND FORM's CARD OF 'bonehouselaw02.FindsUntouched'. -/
def findsUntouchedUptoCard : Claim7 := { stood := { row := findsUntouchedUptoRow, standIns := [], harness := (true, "e8958d2450d07666e5a4d07f1032750e0eb83961526753bde968d853f5ff2f01"), looks := true }, kinds := [], alts := [], laidByText := true, laidKinds := [.data, .data, .data], laidTests := true, laidLooks := .later }
def FindsUntouchedUptoCardSaid : Prop := Claim7.holds Tryz.pinned (.plain (OpenSpec.upto findsUntouchedSpec)) findsUntouchedUptoCard

/-- THE SECOND FORM's CARD OF 'bonehouselaw02.FindsSplit'. -/
def findsSplitUptoCard : Claim7 := { stood := { row := findsSplitUptoRow, standIns := [], harness := (true, "e8958d2450d07666e5a4d07f1032750e0eb83961526753bde968d853f5ff2f01"), looks := true }, kinds := [], alts := [], laidByText := true, laidKinds := [.data, .data, .data], laidTests := true, laidLooks := .later }
def FindsSplitUptoCardSaid : Prop := Claim7.holds Tryz.pinned (.plain (OpenSpec.upto findsSplitSpec)) findsSplitUptoCard

/-- THE SECOND FORM's CARD OF 'bonehouselaw02.FindsLeaves'. -/
def findsLeavesUptoCard : Claim7 := { stood := { row := findsLeavesUptoRow, standIns := [], harness := (true, "e8958d2450d07666e5a4d07f1032750e0eb83961526753bde968d853f5ff2f01"), looks := true }, kinds := [], alts := [], laidByText := true, laidKinds := [.data, .data, .data], laidTests := true, laidLooks := .later }
def FindsLeavesUptoCardSaid : Prop := Claim7.holds Tryz.pinned (.plain (OpenSpec.upto findsLeavesSpec)) findsLeavesUptoCard

/-- THE SECOND FORM's CARD OF 'bonehouselaw02.FindsKnown'. -/
def findsKnownUptoCard : Claim7 := { stood := { row := findsKnownUptoRow, standIns := [], harness := (true, "e8958d2450d07666e5a4d07f1032750e0eb83961526753bde968d853f5ff2f01"), looks := true }, kinds := [], alts := [], laidByText := true, laidKinds := [.data, .data, .data], laidTests := true, laidLooks := .later }
def FindsKnownUptoCardSaid : Prop := Claim7.holds Tryz.pinned (.plain (OpenSpec.upto findsKnownSpec)) findsKnownUptoCard

/-- THE SECOND FORM's CARD OF 'bonehouselaw02.FindsJoined'. -/
def findsJoinedUptoCard : Claim7 := { stood := { row := findsJoinedUptoRow, standIns := [], harness := (true, "e8958d2450d07666e5a4d07f1032750e0eb83961526753bde968d853f5ff2f01"), looks := true }, kinds := [], alts := [], laidByText := true, laidKinds := [.data, .data, .data], laidTests := true, laidLooks := .later }
def FindsJoinedUptoCardSaid : Prop := Claim7.holds Tryz.pinned (.plain (OpenSpec.upto findsJoinedSpec)) findsJoinedUptoCard

/-- THE SECOND FORM's CARD OF 'bonehouselaw02.FindsOverlap'. -/
def findsOverlapUptoCard : Claim7 := { stood := { row := findsOverlapUptoRow, standIns := [], harness := (true, "e8958d2450d07666e5a4d07f1032750e0eb83961526753bde968d853f5ff2f01"), looks := true }, kinds := [], alts := [], laidByText := true, laidKinds := [.data, .data, .data], laidTests := true, laidLooks := .later }
def FindsOverlapUptoCardSaid : Prop := Claim7.holds Tryz.pinned (.plain (OpenSpec.upto findsOverlapSpec)) findsOverlapUptoCard

/-- THE SECOND FORM's CARD OF 'bonehouselaw02.FindsApart'. -/
def findsApartUptoCard : Claim7 := { stood := { row := findsApartUptoRow, standIns := [], harness := (true, "e8958d2450d07666e5a4d07f1032750e0eb83961526753bde968d853f5ff2f01"), looks := true }, kinds := [], alts := [], laidByText := true, laidKinds := [.data, .data, .data], laidTests := true, laidLooks := .later }
def FindsApartUptoCardSaid : Prop := Claim7.holds Tryz.pinned (.plain (OpenSpec.upto findsApartSpec)) findsApartUptoCard

/-- THE SECOND FORM's CARD OF 'bonehouselaw02.FindsDeeds'. -/
def findsDeedsUptoCard : Claim7 := { stood := { row := findsDeedsUptoRow, standIns := [], harness := (true, "e8958d2450d07666e5a4d07f1032750e0eb83961526753bde968d853f5ff2f01"), looks := true }, kinds := [], alts := [], laidByText := true, laidKinds := [.data, .data, .data], laidTests := true, laidLooks := .later }
def FindsDeedsUptoCardSaid : Prop := Claim7.holds Tryz.pinned (.plain (OpenSpec.upto findsDeedsSpec)) findsDeedsUptoCard
end Rows
end Go.Proofs.YtilfiadkhohfiaaGreatDoor
