/-
  DERIVED. GIVEN WITH THE SEED: THE CARDS: each row of YteojbichibdhjacGreatDoorRows.lean that lists a variable, with what it lists TIED to the program's text (the seventh form; the later family's looks); each row that meets fmt, with fmt's text TOLD by the authors' own Lean function (tested against real Go, not proved from fmt's source: count such statements apart). THE CARD IS WHAT COUNTS. Prove the row's statement (the work); the ties are given (YteojbichibdhjacGreatDoorTie.lean); close each card by the builder's one call (the guide's Derived/Test/ToyasCard.lean, 'card_holds'). Laid BY PROGRAM, IN A SANDBOX (cutbox-door.mjs). By AI agents, Wed Nov 11 2026. No macro, syntax, notation, axiom, sorry.
-/
import Derived.Test.YteojbichibdhjacGreatDoorRows
import GoSem.ClaimSeven
namespace Go.Proofs.YteojbichibdhjacGreatDoor
namespace Rows

/-- THE TIED CARD OF 'bonehouselaw06.PartsLattice'. -/
def partsLatticeCard : Claim7 := { stood := { row := partsLatticeRow, standIns := [], harness := (true, "d9c5741f1f88a74d84500075a8860eac712cd17121d69dd701264090cfe4e8ec"), looks := false }, kinds := [], alts := [], laidByText := true, laidKinds := [.data, .data, .data], laidTests := true, laidLooks := .later }
def PartsLatticeCardSaid : Prop := Claim7.holds Tryz.pinned (.plain (OpenSpec.ofChange partsLatticeSpec)) partsLatticeCard

/-- THE SECOND FORM's CARD OF 'bonehouselaw06.PartsLattice'. -/
def partsLatticeUptoCard : Claim7 := { stood := { row := partsLatticeUptoRow, standIns := [], harness := (true, "d9c5741f1f88a74d84500075a8860eac712cd17121d69dd701264090cfe4e8ec"), looks := false }, kinds := [], alts := [], laidByText := true, laidKinds := [.data, .data, .data], laidTests := true, laidLooks := .later }
def PartsLatticeUptoCardSaid : Prop := Claim7.holds Tryz.pinned (.plain (OpenSpec.upto partsLatticeSpec)) partsLatticeUptoCard
end Rows
end Go.Proofs.YteojbichibdhjacGreatDoor
