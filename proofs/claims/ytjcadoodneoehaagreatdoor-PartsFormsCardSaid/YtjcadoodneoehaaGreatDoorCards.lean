/-
  DERIVED. GIVEN WITH THE SEED: THE CARDS: each row of YtjcadoodneoehaaGreatDoorRows.lean that lists a variable, with what it lists TIED to the program's text (the seventh form; the later family's looks); each row that meets fmt, with fmt's text TOLD by the authors' own Lean function (tested against real Go, not proved from fmt's source: count such statements apart). THE CARD IS WHAT COUNTS. Prove the row's statement (the work); the ties are given (YtjcadoodneoehaaGreatDoorTie.lean); close each card by the builder's one call (the guide's Derived/Test/ToyasCard.lean, 'card_holds'). Laid BY PROGRAM, IN A SANDBOX (cutbox-door.mjs). By AI agents, Wed Nov 11 2026. No macro, syntax, notation, axiom, sorry.
-/
import Derived.Test.YtjcadoodneoehaaGreatDoorRows
import GoSem.ClaimSeven
namespace Go.Proofs.YtjcadoodneoehaaGreatDoor
namespace Rows

/-- THE TIED CARD OF 'bonehouselaw06.PartsForms'. -/
def partsFormsCard : Claim7 := { stood := { row := partsFormsRow, standIns := [], harness := (true, "5787c71a2903d28359ca86b12f7c3cea875d0fb83f602ac37c492e962a706f8d"), looks := false }, kinds := [], alts := [], laidByText := true, laidKinds := [.data, .data, .data], laidTests := true, laidLooks := .later }
def PartsFormsCardSaid : Prop := Claim7.holds Tryz.pinned (.plain (OpenSpec.ofChange partsFormsSpec)) partsFormsCard

/-- THE SECOND FORM's CARD OF 'bonehouselaw06.PartsForms'. -/
def partsFormsUptoCard : Claim7 := { stood := { row := partsFormsUptoRow, standIns := [], harness := (true, "5787c71a2903d28359ca86b12f7c3cea875d0fb83f602ac37c492e962a706f8d"), looks := false }, kinds := [], alts := [], laidByText := true, laidKinds := [.data, .data, .data], laidTests := true, laidLooks := .later }
def PartsFormsUptoCardSaid : Prop := Claim7.holds Tryz.pinned (.plain (OpenSpec.upto partsFormsSpec)) partsFormsUptoCard
end Rows
end Go.Proofs.YtjcadoodneoehaaGreatDoor
