/- The card of the row. -/
import Derived.Test.YtilfiadkhohfiaaGreatDoorRows
import Derived.Test.YtilfiadkhohfiaaGreatDoorCards
import Derived.Test.YtilfiadkhohfiaaGreatDoorTie
import Derived.HandedShaped
import Derived.ProofKit
import Derived.OpenShut
import Derived.LaidMore
import Derived.Lay
import Derived.SevenTiedAt
import Derived.Stop.Joined
/- Layer 2: what a law's row and card ask of the text, beside its run. -/
namespace Go.Proofs.YtilfiadkhohfiaaGreatDoor
set_option linter.unusedSimpArgs false
set_option linter.unusedVariables false
open Go Go.RowKit Go.ChangeAt

set_option maxHeartbeats 1000000000 in
theorem findsJoinedSpec_cardOf (said : Rows.FindsJoinedSpecSaid) : Rows.FindsJoinedSpecCardSaid :=
  Claim7.holds_tied_plain_at .later [] [.data, .data, .data] true Rows.findsJoinedSpecCard.stood.harness true said (fun _ h => by cases h) (by as_aux_lemma => kernel_rfl) (fun _ h => by cases h) findsJoinedSpec_row_tie rfl ⟨rfl, rfl⟩ (by as_aux_lemma => kernel_rfl) rfl
    (fun f fn hf hfn => by
      obtain rfl : f = 8 := Option.some.inj ((show Tryz.prog.funcNamed "bonehouse/bonehouselaw02.FindsJoinedSpec" = some 8 by kernel_rfl).symm.trans hf) |>.symm
      obtain rfl : fn = Tryz.f8 := (Option.some.inj (Tryz.func8.symm.trans hfn)).symm
      exact ⟨by kernel_rfl, fun j t ht => by
        rw [Tryz.params8] at ht
        have hm : t ∈ [29, 29, 3] := by simpa using Array.mem_of_getElem? ht
        have hall : ([29, 29, 3].all fun u => !Tryz.prog.wantsStandIn u) = true := by kernel_rfl
        exact (show Tryz.prog.wantsStandIn t = false by simpa using List.all_eq_true.1 hall t hm)⟩)
    (by as_aux_lemma => kernel_rfl)
end Go.Proofs.YtilfiadkhohfiaaGreatDoor
