/-
  DERIVED. GIVEN WITH THE SEED: THE CARDS: each row of YtjifajigigflkaaDoorRows.lean that lists a variable, with what it lists TIED to the program's text (the seventh form; the later family's looks); each row that meets fmt, with fmt's text TOLD by the authors' own Lean function (tested against real Go, not proved from fmt's source: count such statements apart). THE CARD IS WHAT COUNTS. Prove the row's statement (the work); the ties are given (YtjifajigigflkaaDoorTie.lean); close each card by the builder's one call (the guide's Derived/Test/ToyasCard.lean, 'card_holds'). Laid BY PROGRAM, IN A SANDBOX (cutbox-door.mjs). By AI agents, Wed Nov 11 2026. No macro, syntax, notation, axiom, sorry.
-/
import Derived.Test.YtjifajigigflkaaDoorRows
import GoSem.ClaimSeven
namespace Go.Proofs.YtjifajigigflkaaDoor
namespace Rows

/-- THE TIED CARD OF 'bonehouselaw01.BitsNumbers'. -/
def bitsNumbersCard : Claim7 := { stood := { row := bitsNumbersRow, standIns := [], harness := (true, "59e61a00cd98b593f7d767dbd8ecda973868b3dd18ed44325eee520d7d50c5d2"), looks := true }, kinds := [], alts := [], laidByText := true, laidKinds := [.data, .data, .data, .sentinel, .sentinel], laidTests := true, laidLooks := .later }
def BitsNumbersCardSaid : Prop := Claim7.holds Tryd.pinned (.plain (OpenSpec.ofChange bitsNumbersSpec)) bitsNumbersCard

/-- THE TIED CARD OF 'bonehouselaw01.BitsSets'. -/
def bitsSetsCard : Claim7 := { stood := { row := bitsSetsRow, standIns := [], harness := (true, "59e61a00cd98b593f7d767dbd8ecda973868b3dd18ed44325eee520d7d50c5d2"), looks := true }, kinds := [], alts := [], laidByText := true, laidKinds := [.data, .data, .data, .sentinel, .sentinel], laidTests := true, laidLooks := .later }
def BitsSetsCardSaid : Prop := Claim7.holds Tryd.pinned (.plain (OpenSpec.ofChange bitsSetsSpec)) bitsSetsCard

/-- THE TIED CARD OF 'bonehouselaw01.BitsCounts'. -/
def bitsCountsCard : Claim7 := { stood := { row := bitsCountsRow, standIns := [], harness := (true, "59e61a00cd98b593f7d767dbd8ecda973868b3dd18ed44325eee520d7d50c5d2"), looks := true }, kinds := [], alts := [], laidByText := true, laidKinds := [.data, .data, .data, .sentinel, .sentinel], laidTests := true, laidLooks := .later }
def BitsCountsCardSaid : Prop := Claim7.holds Tryd.pinned (.plain (OpenSpec.ofChange bitsCountsSpec)) bitsCountsCard

/-- THE TIED CARD OF 'bonehouselaw01.BitsAfter'. -/
def bitsAfterCard : Claim7 := { stood := { row := bitsAfterRow, standIns := [], harness := (true, "59e61a00cd98b593f7d767dbd8ecda973868b3dd18ed44325eee520d7d50c5d2"), looks := true }, kinds := [], alts := [], laidByText := true, laidKinds := [.data, .data, .data, .sentinel, .sentinel], laidTests := true, laidLooks := .later }
def BitsAfterCardSaid : Prop := Claim7.holds Tryd.pinned (.plain (OpenSpec.ofChange bitsAfterSpec)) bitsAfterCard

/-- THE TIED CARD OF 'bonehouselaw01.BitsCovers'. -/
def bitsCoversCard : Claim7 := { stood := { row := bitsCoversRow, standIns := [], harness := (true, "59e61a00cd98b593f7d767dbd8ecda973868b3dd18ed44325eee520d7d50c5d2"), looks := true }, kinds := [], alts := [], laidByText := true, laidKinds := [.data, .data, .data, .sentinel, .sentinel], laidTests := true, laidLooks := .later }
def BitsCoversCardSaid : Prop := Claim7.holds Tryd.pinned (.plain (OpenSpec.ofChange bitsCoversSpec)) bitsCoversCard

/-- THE TIED CARD OF 'bonehouselaw01.BitsTexts'. -/
def bitsTextsCard : Claim7 := { stood := { row := bitsTextsRow, standIns := [], harness := (true, "59e61a00cd98b593f7d767dbd8ecda973868b3dd18ed44325eee520d7d50c5d2"), looks := true }, kinds := [], alts := [], laidByText := true, laidKinds := [.data, .data, .data, .sentinel, .sentinel], laidTests := true, laidLooks := .later }
def BitsTextsCardSaid : Prop := Claim7.holds Tryd.pinned (.plain (OpenSpec.ofChange bitsTextsSpec)) bitsTextsCard

/-- THE TIED CARD OF 'bonehouselaw01.BitsLattice'. -/
def bitsLatticeCard : Claim7 := { stood := { row := bitsLatticeRow, standIns := [], harness := (true, "59e61a00cd98b593f7d767dbd8ecda973868b3dd18ed44325eee520d7d50c5d2"), looks := true }, kinds := [], alts := [], laidByText := true, laidKinds := [.data, .data, .data, .sentinel, .sentinel], laidTests := true, laidLooks := .later }
def BitsLatticeCardSaid : Prop := Claim7.holds Tryd.pinned (.plain (OpenSpec.ofChange bitsLatticeSpec)) bitsLatticeCard

/-- THE TIED CARD OF 'bonehouselaw01.BitsMembers'. -/
def bitsMembersCard : Claim7 := { stood := { row := bitsMembersRow, standIns := [], harness := (true, "59e61a00cd98b593f7d767dbd8ecda973868b3dd18ed44325eee520d7d50c5d2"), looks := true }, kinds := [], alts := [], laidByText := true, laidKinds := [.data, .data, .data, .sentinel, .sentinel], laidTests := true, laidLooks := .later }
def BitsMembersCardSaid : Prop := Claim7.holds Tryd.pinned (.plain (OpenSpec.ofChange bitsMembersSpec)) bitsMembersCard

/-- THE TIED CARD OF 'bonehouselaw01.BitsPascal'. -/
def bitsPascalCard : Claim7 := { stood := { row := bitsPascalRow, standIns := [], harness := (true, "59e61a00cd98b593f7d767dbd8ecda973868b3dd18ed44325eee520d7d50c5d2"), looks := true }, kinds := [], alts := [], laidByText := true, laidKinds := [.data, .data, .data, .sentinel, .sentinel], laidTests := true, laidLooks := .later }
def BitsPascalCardSaid : Prop := Claim7.holds Tryd.pinned (.plain (OpenSpec.ofChange bitsPascalSpec)) bitsPascalCard

/-- THE TIED CARD OF 'bonehouselaw01.BitsRanks'. -/
def bitsRanksCard : Claim7 := { stood := { row := bitsRanksRow, standIns := [], harness := (true, "59e61a00cd98b593f7d767dbd8ecda973868b3dd18ed44325eee520d7d50c5d2"), looks := true }, kinds := [], alts := [], laidByText := true, laidKinds := [.data, .data, .data, .sentinel, .sentinel], laidTests := true, laidLooks := .later }
def BitsRanksCardSaid : Prop := Claim7.holds Tryd.pinned (.plain (OpenSpec.ofChange bitsRanksSpec)) bitsRanksCard

/-- THE TIED CARD OF 'bonehouselaw01.BitsSteps'. -/
def bitsStepsCard : Claim7 := { stood := { row := bitsStepsRow, standIns := [], harness := (true, "59e61a00cd98b593f7d767dbd8ecda973868b3dd18ed44325eee520d7d50c5d2"), looks := true }, kinds := [], alts := [], laidByText := true, laidKinds := [.data, .data, .data, .sentinel, .sentinel], laidTests := true, laidLooks := .later }
def BitsStepsCardSaid : Prop := Claim7.holds Tryd.pinned (.plain (OpenSpec.ofChange bitsStepsSpec)) bitsStepsCard

/-- THE TIED CARD OF 'bonehouselaw01.BitsExact'. -/
def bitsExactCard : Claim7 := { stood := { row := bitsExactRow, standIns := [], harness := (true, "59e61a00cd98b593f7d767dbd8ecda973868b3dd18ed44325eee520d7d50c5d2"), looks := true }, kinds := [], alts := [], laidByText := true, laidKinds := [.data, .data, .data, .sentinel, .sentinel], laidTests := true, laidLooks := .later }
def BitsExactCardSaid : Prop := Claim7.holds Tryd.pinned (.plain (OpenSpec.ofChange bitsExactSpec)) bitsExactCard

/-- THE TIED CARD OF 'bonehouselaw01.BitsParts'. -/
def bitsPartsCard : Claim7 := { stood := { row := bitsPartsRow, standIns := [], harness := (true, "59e61a00cd98b593f7d767dbd8ecda973868b3dd18ed44325eee520d7d50c5d2"), looks := true }, kinds := [], alts := [], laidByText := true, laidKinds := [.data, .data, .data, .sentinel, .sentinel], laidTests := true, laidLooks := .later }
def BitsPartsCardSaid : Prop := Claim7.holds Tryd.pinned (.plain (OpenSpec.ofChange bitsPartsSpec)) bitsPartsCard

/-- THE SECOND FORM's CARD OF 'bonehouselaw01.BitsNumbers'. -/
def bitsNumbersUptoCard : Claim7 := { stood := { row := bitsNumbersUptoRow, standIns := [], harness := (true, "59e61a00cd98b593f7d767dbd8ecda973868b3dd18ed44325eee520d7d50c5d2"), looks := true }, kinds := [], alts := [], laidByText := true, laidKinds := [.data, .data, .data, .sentinel, .sentinel], laidTests := true, laidLooks := .later }
def BitsNumbersUptoCardSaid : Prop := Claim7.holds Tryd.pinned (.plain (OpenSpec.upto bitsNumbersSpec)) bitsNumbersUptoCard

/-- THE SECOND FORM's CARD OF 'bonehouselaw01.BitsSets'. -/
def bitsSetsUptoCard : Claim7 := { stood := { row := bitsSetsUptoRow, standIns := [], harness := (true, "59e61a00cd98b593f7d767dbd8ecda973868b3dd18ed44325eee520d7d50c5d2"), looks := true }, kinds := [], alts := [], laidByText := true, laidKinds := [.data, .data, .data, .sentinel, .sentinel], laidTests := true, laidLooks := .later }
def BitsSetsUptoCardSaid : Prop := Claim7.holds Tryd.pinned (.plain (OpenSpec.upto bitsSetsSpec)) bitsSetsUptoCard

/-- THE SECOND FORM's CARD OF 'bonehouselaw01.BitsCounts'. -/
def bitsCountsUptoCard : Claim7 := { stood := { row := bitsCountsUptoRow, standIns := [], harness := (true, "59e61a00cd98b593f7d767dbd8ecda973868b3dd18ed44325eee520d7d50c5d2"), looks := true }, kinds := [], alts := [], laidByText := true, laidKinds := [.data, .data, .data, .sentinel, .sentinel], laidTests := true, laidLooks := .later }
def BitsCountsUptoCardSaid : Prop := Claim7.holds Tryd.pinned (.plain (OpenSpec.upto bitsCountsSpec)) bitsCountsUptoCard

/-- THE SECOND FORM's CARD OF 'bonehouselaw01.BitsAfter'. -/
def bitsAfterUptoCard : Claim7 := { stood := { row := bitsAfterUptoRow, standIns := [], harness := (true, "59e61a00cd98b593f7d767dbd8ecda973868b3dd18ed44325eee520d7d50c5d2"), looks := true }, kinds := [], alts := [], laidByText := true, laidKinds := [.data, .data, .data, .sentinel, .sentinel], laidTests := true, laidLooks := .later }
def BitsAfterUptoCardSaid : Prop := Claim7.holds Tryd.pinned (.plain (OpenSpec.upto bitsAfterSpec)) bitsAfterUptoCard

/-- THE SECOND FORM's CARD OF 'bonehouselaw01.BitsCovers'. -/
def bitsCoversUptoCard : Claim7 := { stood := { row := bitsCoversUptoRow, standIns := [], harness := (true, "59e61a00cd98b593f7d767dbd8ecda973868b3dd18ed44325eee520d7d50c5d2"), looks := true }, kinds := [], alts := [], laidByText := true, laidKinds := [.data, .data, .data, .sentinel, .sentinel], laidTests := true, laidLooks := .later }
def BitsCoversUptoCardSaid : Prop := Claim7.holds Tryd.pinned (.plain (OpenSpec.upto bitsCoversSpec)) bitsCoversUptoCard

/-- THE SECOND FORM's CARD OF 'bonehouselaw01.BitsTexts'. -/
def bitsTextsUptoCard : Claim7 := { stood := { row := bitsTextsUptoRow, standIns := [], harness := (true, "59e61a00cd98b593f7d767dbd8ecda973868b3dd18ed44325eee520d7d50c5d2"), looks := true }, kinds := [], alts := [], laidByText := true, laidKinds := [.data, .data, .data, .sentinel, .sentinel], laidTests := true, laidLooks := .later }
def BitsTextsUptoCardSaid : Prop := Claim7.holds Tryd.pinned (.plain (OpenSpec.upto bitsTextsSpec)) bitsTextsUptoCard

/-- THE SECOND FORM's CARD OF 'bonehouselaw01.BitsLattice'. -/
def bitsLatticeUptoCard : Claim7 := { stood := { row := bitsLatticeUptoRow, standIns := [], harness := (true, "59e61a00cd98b593f7d767dbd8ecda973868b3dd18ed44325eee520d7d50c5d2"), looks := true }, kinds := [], alts := [], laidByText := true, laidKinds := [.data, .data, .data, .sentinel, .sentinel], laidTests := true, laidLooks := .later }
def BitsLatticeUptoCardSaid : Prop := Claim7.holds Tryd.pinned (.plain (OpenSpec.upto bitsLatticeSpec)) bitsLatticeUptoCard

/-- THE SECOND FORM's CARD OF 'bonehouselaw01.BitsMembers'. -/
def bitsMembersUptoCard : Claim7 := { stood := { row := bitsMembersUptoRow, standIns := [], harness := (true, "59e61a00cd98b593f7d767dbd8ecda973868b3dd18ed44325eee520d7d50c5d2"), looks := true }, kinds := [], alts := [], laidByText := true, laidKinds := [.data, .data, .data, .sentinel, .sentinel], laidTests := true, laidLooks := .later }
def BitsMembersUptoCardSaid : Prop := Claim7.holds Tryd.pinned (.plain (OpenSpec.upto bitsMembersSpec)) bitsMembersUptoCard

/-- THE SECOND FORM's CARD OF 'bonehouselaw01.BitsPascal'. -/
def bitsPascalUptoCard : Claim7 := { stood := { row := bitsPascalUptoRow, standIns := [], harness := (true, "59e61a00cd98b593f7d767dbd8ecda973868b3dd18ed44325eee520d7d50c5d2"), looks := true }, kinds := [], alts := [], laidByText := true, laidKinds := [.data, .data, .data, .sentinel, .sentinel], laidTests := true, laidLooks := .later }
def BitsPascalUptoCardSaid : Prop := Claim7.holds Tryd.pinned (.plain (OpenSpec.upto bitsPascalSpec)) bitsPascalUptoCard

/-- THE SECOND FORM's CARD OF 'bonehouselaw01.BitsRanks'. -/
def bitsRanksUptoCard : Claim7 := { stood := { row := bitsRanksUptoRow, standIns := [], harness := (true, "59e61a00cd98b593f7d767dbd8ecda973868b3dd18ed44325eee520d7d50c5d2"), looks := true }, kinds := [], alts := [], laidByText := true, laidKinds := [.data, .data, .data, .sentinel, .sentinel], laidTests := true, laidLooks := .later }
def BitsRanksUptoCardSaid : Prop := Claim7.holds Tryd.pinned (.plain (OpenSpec.upto bitsRanksSpec)) bitsRanksUptoCard

/-- THE SECOND FORM's CARD OF 'bonehouselaw01.BitsSteps'. -/
def bitsStepsUptoCard : Claim7 := { stood := { row := bitsStepsUptoRow, standIns := [], harness := (true, "59e61a00cd98b593f7d767dbd8ecda973868b3dd18ed44325eee520d7d50c5d2"), looks := true }, kinds := [], alts := [], laidByText := true, laidKinds := [.data, .data, .data, .sentinel, .sentinel], laidTests := true, laidLooks := .later }
def BitsStepsUptoCardSaid : Prop := Claim7.holds Tryd.pinned (.plain (OpenSpec.upto bitsStepsSpec)) bitsStepsUptoCard

/-- THE SECOND FORM's CARD OF 'bonehouselaw01.BitsExact'. -/
def bitsExactUptoCard : Claim7 := { stood := { row := bitsExactUptoRow, standIns := [], harness := (true, "59e61a00cd98b593f7d767dbd8ecda973868b3dd18ed44325eee520d7d50c5d2"), looks := true }, kinds := [], alts := [], laidByText := true, laidKinds := [.data, .data, .data, .sentinel, .sentinel], laidTests := true, laidLooks := .later }
def BitsExactUptoCardSaid : Prop := Claim7.holds Tryd.pinned (.plain (OpenSpec.upto bitsExactSpec)) bitsExactUptoCard

/-- THE SECOND FORM's CARD OF 'bonehouselaw01.BitsParts'. -/
def bitsPartsUptoCard : Claim7 := { stood := { row := bitsPartsUptoRow, standIns := [], harness := (true, "59e61a00cd98b593f7d767dbd8ecda973868b3dd18ed44325eee520d7d50c5d2"), looks := true }, kinds := [], alts := [], laidByText := true, laidKinds := [.data, .data, .data, .sentinel, .sentinel], laidTests := true, laidLooks := .later }
def BitsPartsUptoCardSaid : Prop := Claim7.holds Tryd.pinned (.plain (OpenSpec.upto bitsPartsSpec)) bitsPartsUptoCard
end Rows
end Go.Proofs.YtjifajigigflkaaDoor
