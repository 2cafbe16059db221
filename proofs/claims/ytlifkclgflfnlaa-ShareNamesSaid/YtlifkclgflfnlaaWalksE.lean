/- What package ticks answers of many numbers: slices.Contains, Sum, Lcm. -/
import Derived.Test.YtlifkclgflfnlaaWalksD
namespace Go.Proofs.Ytlifkclgflfnlaa
open Go.RowKit Tk
set_option linter.unusedVariables false

def has (v : Int) (zs : List Int) : Bool := zs.contains v
/-- a place in a list, or none -/
def IdxP (zs : List Int) (v : Int) (w : World) (e : Ending) (w' : World) : Prop := ∃ r : Int, e = .returned (.int .i64 r) ∧ decide (0 ≤ r) = zs.contains v ∧ w = w'

end Go.Proofs.Ytlifkclgflfnlaa
