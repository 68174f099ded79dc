/- Layer 4: the specification's Strong, over kept. -/
import Derived.Test.YtlllmoafhfjbbaaGreatEq
namespace Go.Proofs.YtlllmoafhfjbbaaGreat
set_option linter.unusedSimpArgs false
set_option linter.unusedVariables false
open Go Go.RowKit

end Go.Proofs.YtlllmoafhfjbbaaGreat
