/-
  DERIVED. GIVEN WITH THE SEED: THE CARDS: each row of YtblmlkmibgklpaaGreatDoorRows.lean that lists a variable, with what it lists TIED to the program's text (the seventh form; the later family's looks); each row that meets fmt, with fmt's text TOLD by the authors' own Lean function (tested against real Go, not proved from fmt's source: count such statements apart). THE CARD IS WHAT COUNTS. Prove the row's statement (the work); the ties are given (YtblmlkmibgklpaaGreatDoorTie.lean); close each card by the builder's one call (the guide's Derived/Test/ToyasCard.lean, 'card_holds'). Laid BY PROGRAM, IN A SANDBOX (cutbox-door.mjs). By AI agents, Wed Nov 11 2026. No macro, syntax, notation, axiom, sorry.
-/
import Derived.Test.YtblmlkmibgklpaaGreatDoorRows
import GoSem.ClaimSeven
namespace Go.Proofs.YtblmlkmibgklpaaGreatDoor
namespace Rows

/-- THE TIED CARD OF 'bonehouselaw06.PartsTexts'. -/
def partsTextsCard : Claim7 := { stood := { row := partsTextsRow, standIns := [], harness := (true, "ccd32ddf1cfd1164379b650a22125a1287a5d6eed2193f2970293966e20353b5"), looks := true }, kinds := [], alts := [], laidByText := true, laidKinds := [.data, .data, .data, .data, .sentinel, .sentinel, .pinned], laidTests := true, laidLooks := .later }
def PartsTextsCardSaid : Prop := Claim7.holds Tryz.pinned (.plain (OpenSpec.ofChange partsTextsSpec)) partsTextsCard

/-- THE SECOND FORM's CARD OF 'bonehouselaw06.PartsTexts'. -/
def partsTextsUptoCard : Claim7 := { stood := { row := partsTextsUptoRow, standIns := [], harness := (true, "ccd32ddf1cfd1164379b650a22125a1287a5d6eed2193f2970293966e20353b5"), looks := true }, kinds := [], alts := [], laidByText := true, laidKinds := [.data, .data, .data, .data, .sentinel, .sentinel, .pinned], laidTests := true, laidLooks := .later }
def PartsTextsUptoCardSaid : Prop := Claim7.holds Tryz.pinned (.plain (OpenSpec.upto partsTextsSpec)) partsTextsUptoCard
end Rows
end Go.Proofs.YtblmlkmibgklpaaGreatDoor
