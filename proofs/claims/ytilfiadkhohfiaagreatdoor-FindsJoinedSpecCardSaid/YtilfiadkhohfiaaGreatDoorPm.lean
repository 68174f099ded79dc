/- Closed facts of a row. -/
import Derived.Test.YtilfiadkhohfiaaGreatDoorRows
import Derived.Test.YtilfiadkhohfiaaGreatDoorCards
import Derived.JoinedOf
import Derived.KernelRfl
/- Layer 2: the closed facts of a law's row. -/
namespace Go.Proofs.YtilfiadkhohfiaaGreatDoor
set_option linter.unusedSimpArgs false
set_option linter.unusedVariables false
open Go
set_option maxHeartbeats 1000000000 in
theorem findsJoinedSpec_facts : joinedFacts Tryz.prog 8 Tryz.f8 Rows.findsJoinedSpecSpec Rows.findsJoinedSpecRow = true := by
  unfold joinedFacts
  simp only [Bool.and_eq_true]
  and_intros
  all_goals as_aux_lemma => kernel_rfl
end Go.Proofs.YtilfiadkhohfiaaGreatDoor
