/- Layer 6: the closed facts of a law's row. -/
import Derived.Test.YteojbichibdhjacGreatDoorRows
import Derived.Test.YteojbichibdhjacGreatDoorCards
import Derived.JoinedOf
import Derived.KernelRfl
namespace Go.Proofs.YteojbichibdhjacGreatDoor
set_option linter.unusedSimpArgs false
set_option linter.unusedVariables false
open Go
set_option maxHeartbeats 1000000000 in
theorem partsLattice_facts : joinedFacts Tryz.prog 3 Tryz.f3 Rows.partsLatticeSpec Rows.partsLatticeRow = true := by
  unfold joinedFacts
  simp only [Bool.and_eq_true]
  and_intros
  all_goals as_aux_lemma => kernel_rfl
end Go.Proofs.YteojbichibdhjacGreatDoor
