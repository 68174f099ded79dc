/- The row. -/
import Derived.Test.YtilfiadkhohfiaaGreatDoorRows
import Derived.Test.YtilfiadkhohfiaaGreatDoorCards
import Derived.Test.YtilfiadkhohfiaaGreatDoorTie
import Derived.Test.YtilfiadkhohfiaaGreatDoorPm
import Derived.HandedShaped
import Derived.ProofKit
import Derived.OpenShut
import Derived.LaidMore
import Derived.Lay
import Derived.SevenTiedAt
import Derived.Stop.Joined
/- Layer 2: what a law's row and card ask of the text, beside its run. -/
namespace Go.Proofs.YtilfiadkhohfiaaGreatDoor
set_option linter.unusedSimpArgs false
set_option linter.unusedVariables false
open Go Go.RowKit Go.ChangeAt

set_option maxHeartbeats 1000000000 in
theorem findsJoinedSpec_holdsOf (lifted : ∀ (os : Os) (started : os.Started) (H : Type) (enc : TypeId × Value → H), ReturnsInHanded {} Tryz.checked os 8 .any (fun w args => (Rows.findsJoinedSpecSpec.pre enc Tryz.prog Tryz.f8 [] false w args ∧ laidMetH Tryz.prog Rows.findsJoinedSpecRow.laid w) ∧ sizedMet enc Tryz.prog Tryz.f8 (OpenSpec.ofChange Rows.findsJoinedSpecSpec) false w args) (Rows.findsJoinedSpecSpec.post enc Tryz.prog Tryz.f8 false true false false)) : Rows.FindsJoinedSpecSaid :=
  OpenClaim.holds_of_wide 8 Tryz.f8 rfl rfl rfl rfl rfl rfl rfl ⟨rfl, rfl, rfl, rfl, rfl⟩ rfl rfl rfl rfl rfl (by as_aux_lemma => kernel_rfl) Tryz.func8 findsJoinedSpec_facts
    (of_decide_eq_true (by as_aux_lemma => kernel_rfl)) (by unfold Func.isWrapper; first | (rw [if_pos (by decide +kernel)]; kernel_rfl) | (rw [if_neg (by decide +kernel)]; exact ⟨rfl, rfl⟩))
    (fun os started H enc _ => lifted os started H enc)
end Go.Proofs.YtilfiadkhohfiaaGreatDoor
