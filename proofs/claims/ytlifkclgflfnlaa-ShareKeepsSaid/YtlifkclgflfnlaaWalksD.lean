/- What package ticks reckons of many numbers: Lcm and Sum. -/
import Derived.Test.YtlifkclgflfnlaaWalksC
namespace Go.Proofs.Ytlifkclgflfnlaa
open Go.RowKit Tk
set_option linter.unusedVariables false

end Go.Proofs.Ytlifkclgflfnlaa
