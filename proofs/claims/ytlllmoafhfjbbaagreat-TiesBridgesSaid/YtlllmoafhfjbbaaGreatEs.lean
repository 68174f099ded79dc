/- Layer 4: the specification's Without, over kept. -/
import Derived.Test.YtlllmoafhfjbbaaGreatEr
namespace Go.Proofs.YtlllmoafhfjbbaaGreat
set_option linter.unusedSimpArgs false
set_option linter.unusedVariables false
open Go Go.RowKit

def othW (BL : List Value) (m : Nat) : Word := fun v w => ∃ g, v = .slice (some ⟨g, 0, none⟩) m m ∧ Blk w g BL 4
theorem othW_lasts {w0 : World} (BL : List Value) (m : Nat) : lasts (clOld w0) (othW BL m) := fun v w w' _ hR ⟨g, hv, h⟩ => ⟨g, hv, h.below hR⟩
end Go.Proofs.YtlllmoafhfjbbaaGreat
