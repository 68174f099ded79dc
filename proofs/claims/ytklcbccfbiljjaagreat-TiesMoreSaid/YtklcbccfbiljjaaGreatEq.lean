/- Layer 4: the specification's strong, over kept. -/
import Derived.Test.YtklcbccfbiljjaaGreatEp
namespace Go.Proofs.YtklcbccfbiljjaaGreat
set_option linter.unusedSimpArgs false
set_option linter.unusedVariables false
open Go Go.RowKit

end Go.Proofs.YtklcbccfbiljjaaGreat
