/- Layer 6: the closed facts of a law's row. -/
import Derived.Test.YtblmlkmibgklpaaGreatDoorRows
import Derived.Test.YtblmlkmibgklpaaGreatDoorCards
import Derived.JoinedOf
import Derived.KernelRfl
namespace Go.Proofs.YtblmlkmibgklpaaGreatDoor
set_option linter.unusedSimpArgs false
set_option linter.unusedVariables false
open Go
set_option maxHeartbeats 1000000000 in
theorem partsTexts_facts : joinedFacts Tryz.prog 3 Tryz.f3 Rows.partsTextsSpec Rows.partsTextsRow = true := by
  unfold joinedFacts
  simp only [Bool.and_eq_true]
  and_intros
  all_goals as_aux_lemma => kernel_rfl
end Go.Proofs.YtblmlkmibgklpaaGreatDoor
