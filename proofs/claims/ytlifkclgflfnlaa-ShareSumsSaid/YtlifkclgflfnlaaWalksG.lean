/- The chapter's examples (works), what CopyInts and EqInts do. -/
import Derived.Test.YtlifkclgflfnlaaWalksF
namespace Go.Proofs.Ytlifkclgflfnlaa
open Go.RowKit Tk
set_option linter.unusedVariables false

def TrueB (w : World) (e : Ending) (w' : World) : Prop := e = .returned (.bool true) ∧ Below w.heap.size w w'
theorem chain {w w1 w2 : World} (h : Below w.heap.size w w1) (k : Below w1.heap.size w1 w2) : Below w.heap.size w w2 := h.trans (k.mono h.size)
theorem chainA {w w1 w2 : World} {o : Obj} (h : Below w.heap.size w w1) (k : Below (w1.alloc o).heap.size (w1.alloc o) w2) : Below w.heap.size w w2 := chain (chain h (below_alloc w1 o)) k

theorem known1a : addN 1099511627776 0 = 1099511627776 := by decide +kernel
theorem known1b : addE 1099511627776 0 = 0 := by decide +kernel
theorem known2a : addN 1099511627776 1 = 0 := by decide +kernel
theorem known2b : addE 1099511627776 1 = 10 := by decide +kernel
theorem known3a : subN 3 4 = 0 := by decide +kernel
theorem known3b : subE 3 4 = 2 := by decide +kernel
theorem known4a : mulN 1048576 1048576 = 1099511627776 := by decide +kernel
theorem known4b : mulE 1048576 1048576 = 0 := by decide +kernel
theorem known5a : mulN 1048577 1048576 = 0 := by decide +kernel
theorem known5b : mulE 1048577 1048576 = 10 := by decide +kernel
theorem known6a : divN 7 2 = 3 := by decide +kernel
theorem known6b : divE 7 2 = 0 := by decide +kernel
theorem known7a : divN 7 0 = 0 := by decide +kernel
theorem known7b : divE 7 0 = 2 := by decide +kernel
theorem known8a : gcdN 12 18 = 6 := by decide +kernel
theorem known8b : gcdE 12 18 = 0 := by decide +kernel
theorem known9a : gcdN 0 5 = 5 := by decide +kernel
theorem known9b : gcdE 0 5 = 0 := by decide +kernel
theorem known10 : lcmR 100 [4, 6, 10] = (60, 0) := by decide +kernel
theorem known11 : lcmR 59 [4, 6, 10] = (0, 10) := by decide +kernel
theorem known12 : lcmR 1 [] = (1, 0) := by decide +kernel
theorem known13 : sumR [1, 2, 3] = (6, 0) := by decide +kernel
theorem known14 : sumR [(-1)] = (0, 2) := by decide +kernel

end Go.Proofs.Ytlifkclgflfnlaa
