/- Layer 4: slices.Contains of ties, and the closure of Merge. -/
import Derived.Test.YtlllmoafhfjbbaaGreatEi
namespace Go.Proofs.YtlllmoafhfjbbaaGreat
set_option linter.unusedSimpArgs false
set_option linter.unusedVariables false
open Go Go.RowKit

end Go.Proofs.YtlllmoafhfjbbaaGreat
