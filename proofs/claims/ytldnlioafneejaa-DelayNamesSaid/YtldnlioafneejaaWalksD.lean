/- What package ticks reckons of many numbers: Lcm and Sum. -/
import Derived.Test.YtldnlioafneejaaWalksC
namespace Go.Proofs.Ytldnlioafneejaa
open Go.RowKit Tk
set_option linter.unusedVariables false

end Go.Proofs.Ytldnlioafneejaa
