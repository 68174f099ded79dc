/- Layer 6: what a law's row and card ask of the text, beside its run. -/
import Derived.Test.YteojbichibdhjacGreatDoorRows
import Derived.Test.YteojbichibdhjacGreatDoorCards
import Derived.Test.YteojbichibdhjacGreatDoorTie
import Derived.Test.YteojbichibdhjacGreatDoorLt
import Derived.HandedShaped
import Derived.ProofKit
import Derived.OpenShut
import Derived.LaidMore
import Derived.Lay
import Derived.SevenTiedAt
import Derived.Stop.Joined
namespace Go.Proofs.YteojbichibdhjacGreatDoor
set_option linter.unusedSimpArgs false
set_option linter.unusedVariables false
open Go Go.RowKit Go.ChangeAt

set_option maxHeartbeats 1000000000 in
theorem partsLattice_holdsOf (lifted : ∀ (os : Os) (started : os.Started) (H : Type) (enc : TypeId × Value → H), ReturnsInHanded {} Tryz.checked os 3 .any (fun w args => (Rows.partsLatticeSpec.pre enc Tryz.prog Tryz.f3 [] false w args ∧ laidMetH Tryz.prog Rows.partsLatticeRow.laid w) ∧ sizedMet enc Tryz.prog Tryz.f3 (OpenSpec.ofChange Rows.partsLatticeSpec) false w args) (Rows.partsLatticeSpec.post enc Tryz.prog Tryz.f3 false true false false)) : Rows.PartsLatticeSaid :=
  OpenClaim.holds_of_wide 3 Tryz.f3 rfl rfl rfl rfl rfl rfl rfl ⟨rfl, rfl, rfl, rfl, rfl⟩ rfl rfl rfl rfl rfl (by as_aux_lemma => kernel_rfl) Tryz.func3 partsLattice_facts
    (of_decide_eq_true (by as_aux_lemma => kernel_rfl)) (by unfold Func.isWrapper; first | (rw [if_pos (by decide +kernel)]; kernel_rfl) | (rw [if_neg (by decide +kernel)]; exact ⟨rfl, rfl⟩))
    (fun os started H enc _ => lifted os started H enc)
end Go.Proofs.YteojbichibdhjacGreatDoor
