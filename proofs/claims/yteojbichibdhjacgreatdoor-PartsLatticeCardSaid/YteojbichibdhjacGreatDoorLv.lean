/- Layer 6: what a law's row and card ask of the text, beside its run. -/
import Derived.Test.YteojbichibdhjacGreatDoorRows
import Derived.Test.YteojbichibdhjacGreatDoorCards
import Derived.Test.YteojbichibdhjacGreatDoorTie
import Derived.HandedShaped
import Derived.ProofKit
import Derived.OpenShut
import Derived.LaidMore
import Derived.Lay
import Derived.SevenTiedAt
import Derived.Stop.Joined
namespace Go.Proofs.YteojbichibdhjacGreatDoor
set_option linter.unusedSimpArgs false
set_option linter.unusedVariables false
open Go Go.RowKit Go.ChangeAt

set_option maxHeartbeats 1000000000 in
theorem partsLattice_cardOf (said : Rows.PartsLatticeSaid) : Rows.PartsLatticeCardSaid :=
  Claim7.holds_tied_plain_at .later [] [.data, .data, .data] true Rows.partsLatticeCard.stood.harness false said (fun _ h => by cases h) (by as_aux_lemma => kernel_rfl) (fun _ h => by cases h) partsLattice_row_tie rfl ⟨rfl, rfl⟩ (by as_aux_lemma => kernel_rfl) rfl
    (fun f fn hf hfn => by
      obtain rfl : f = 3 := Option.some.inj ((show Tryz.prog.funcNamed "bonehouse/bonehouselaw06.PartsLattice" = some 3 by kernel_rfl).symm.trans hf) |>.symm
      obtain rfl : fn = Tryz.f3 := (Option.some.inj (Tryz.func3.symm.trans hfn)).symm
      exact ⟨by kernel_rfl, fun j t ht => by
        rw [Tryz.params3] at ht
        have hm : t ∈ [22, 22] := by simpa using Array.mem_of_getElem? ht
        have hall : ([22, 22].all fun u => !Tryz.prog.wantsStandIn u) = true := by kernel_rfl
        exact (show Tryz.prog.wantsStandIn t = false by simpa using List.all_eq_true.1 hall t hm)⟩)
    (by as_aux_lemma => kernel_rfl)
end Go.Proofs.YteojbichibdhjacGreatDoor
