/-
  No cell of these rows narrows 'for every input' (looked for: loops, veiled, ifaces, maps, wideKeys, modest, calm, conditions, laid).
  DERIVED. THE GIVEN ROWS OF THIS SEAT. 3 by the template 'for every input the law returns true; each argument reads behind the call as it read before'; 0 by the template 'total and deterministic' (their statements: YtoggnofdgmhbmaaTotals.lean).
  GIVEN WITH THE SEED: the statements are not yours to turn. If you find one false, say at which input.
  Laid BY PROGRAM, IN A SANDBOX (cutbox-rows.mjs): the forced cells as the released guide's own fill.sh prints them over the translation 75414888fde0ffa7… (all of the seat's roots in one cut). By AI agents, Wed Nov 11 2026. No macro, syntax, notation, axiom, sorry.
-/
import Derived.Test.YtoggnofdgmhbmaaChecked
import GoSem.Claim
import GoSem.ClaimJoined
import GoSem.ClaimMapViews
import Derived.JoinedTies
import Derived.KernelRfl
namespace Go.Proofs.Ytoggnofdgmhbmaa
/- THE CELL 'sum', in the pinned program and in every row, IS THE sha256 OF THE DUMP (.gsa) THAT YtoggnofdgmhbmaaProg.lean LOADS. Nothing in Lean hashes anything: it is a label: what it is worth is what the hold of that sum in a sandbox is worth. -/
noncomputable def Try.pinned : Pinned := { name := "ytoggnofdgmhbmaa", sum := "75414888fde0ffa72a0a15ed9cfad347205362470c8aa7b0c8e4629c9fa6b1d1", checked := Try.checked }
namespace Rows
def none {H : Type} : Left H := { results := [], args := [] }

/-- 'escapementlaw17.JobPlays': WHATEVER THE INPUT: true; the input reads as it did. -/
def jobPlaysSpec : ChangeSpec := { name := "jobPlays", fn := fun _ => fun
  | [d1, d2, d3] => { results := [.lit (.bool true)], args := [d1, d2, d3] }
  | _ => none }
def jobPlaysRow : OpenClaim := { program := "ytoggnofdgmhbmaa", sum := "75414888fde0ffa72a0a15ed9cfad347205362470c8aa7b0c8e4629c9fa6b1d1", func := "escapement/escapementlaw17.JobPlays", spec := "jobPlays", apart := false }
def JobPlaysSaid : Prop := jobPlaysRow.holds Try.pinned (OpenSpec.ofChange jobPlaysSpec)

/-- ITS FALSE NEIGHBOUR: 'it returns false'. Refute it at one input. -/
def jobPlaysWrong : ChangeSpec := { name := "jobPlays", fn := fun _ => fun
  | [d1, d2, d3] => { results := [.lit (.bool false)], args := [d1, d2, d3] }
  | _ => none }
def JobPlaysWrongFalsely : Prop := jobPlaysRow.holds Try.pinned (OpenSpec.ofChange jobPlaysWrong)

/-- 'escapementlaw17.JobBound': WHATEVER THE INPUT: true; the input reads as it did. -/
def jobBoundSpec : ChangeSpec := { name := "jobBound", fn := fun _ => fun
  | [d1, d2, d3] => { results := [.lit (.bool true)], args := [d1, d2, d3] }
  | _ => none }
def jobBoundRow : OpenClaim := { program := "ytoggnofdgmhbmaa", sum := "75414888fde0ffa72a0a15ed9cfad347205362470c8aa7b0c8e4629c9fa6b1d1", func := "escapement/escapementlaw17.JobBound", spec := "jobBound", apart := false }
def JobBoundSaid : Prop := jobBoundRow.holds Try.pinned (OpenSpec.ofChange jobBoundSpec)

/-- ITS FALSE NEIGHBOUR: 'it returns false'. Refute it at one input. -/
def jobBoundWrong : ChangeSpec := { name := "jobBound", fn := fun _ => fun
  | [d1, d2, d3] => { results := [.lit (.bool false)], args := [d1, d2, d3] }
  | _ => none }
def JobBoundWrongFalsely : Prop := jobBoundRow.holds Try.pinned (OpenSpec.ofChange jobBoundWrong)

/-- 'escapementlaw17.JobNames': WHATEVER THE INPUT: true; the input reads as it did. -/
def jobNamesSpec : ChangeSpec := { name := "jobNames", fn := fun _ => fun
  | [] => { results := [.lit (.bool true)], args := [] }
  | _ => none }
def jobNamesRow : OpenClaim := { program := "ytoggnofdgmhbmaa", sum := "75414888fde0ffa72a0a15ed9cfad347205362470c8aa7b0c8e4629c9fa6b1d1", func := "escapement/escapementlaw17.JobNames", spec := "jobNames", apart := false }
def JobNamesSaid : Prop := jobNamesRow.holds Try.pinned (OpenSpec.ofChange jobNamesSpec)

/-- ITS FALSE NEIGHBOUR: 'it returns false'. Refute it at one input. -/
def jobNamesWrong : ChangeSpec := { name := "jobNames", fn := fun _ => fun
  | [] => { results := [.lit (.bool false)], args := [] }
  | _ => none }
def JobNamesWrongFalsely : Prop := jobNamesRow.holds Try.pinned (OpenSpec.ofChange jobNamesWrong)

/- THE SECOND FORM. 'bulk': how many values and letters a reading holds, each counted each time it is reached (what is shared counts as often as it is met; a slice's spare places count too). A statement '..UptoSaid' is the law's where the arguments, and the package variables that the reading takes, are together of bulk at most 1048576: NARROWER than '..Said'. Prove '..Said' where nothing that the law and all that it calls make is longer than what came in: it says more and counts as full. Else prove '..UptoSaid'. A law counts once. -/
mutual
def uptoBulk {H : Type} : DataW H → Nat
  | .lit (.string bytes) => bytes.length + 1
  | .lit _ => 1
  | .nil => 1
  | .ptr d => uptoBulk d + 1
  | .slice elems spare => uptoBulkAll elems + uptoBulkAll spare + 1
  | .agg parts => uptoBulkAll parts + 1
  | .iface _ d => uptoBulk d + 1
  | .map entries => uptoBulkEntries entries + 1
  | .held _ => 1
def uptoBulkAll {H : Type} : List (DataW H) → Nat
  | [] => 0
  | d :: r => uptoBulk d + uptoBulkAll r
def uptoBulkEntries {H : Type} : List (Lit × DataW H) → Nat
  | [] => 0
  | x :: r => uptoBulkEntry x + uptoBulkEntries r
def uptoBulkEntry {H : Type} : Lit × DataW H → Nat
  | (.string bytes, d) => bytes.length + uptoBulk d + 1
  | (_, d) => uptoBulk d + 1
 end
def uptoSmall : (H : Type) → List (DataW H) → Bool := fun _ ds => decide (uptoBulkAll ds ≤ 1048576)
def OpenSpec.upto (s : _root_.Go.ChangeSpec) : _root_.Go.OpenSpec := { _root_.Go.OpenSpec.ofChange s with cond := some uptoSmall }

/-- 'escapementlaw17.JobPlays', WHERE WHAT IT READS IS OF BULK AT MOST 1048576: true; the input reads as it did. -/
def jobPlaysUptoRow : OpenClaim := { program := "ytoggnofdgmhbmaa", sum := "75414888fde0ffa72a0a15ed9cfad347205362470c8aa7b0c8e4629c9fa6b1d1", func := "escapement/escapementlaw17.JobPlays", spec := "jobPlays", apart := false, narrowed := true }
def JobPlaysUptoSaid : Prop := jobPlaysUptoRow.holds Try.pinned (OpenSpec.upto jobPlaysSpec)

/-- 'escapementlaw17.JobBound', WHERE WHAT IT READS IS OF BULK AT MOST 1048576: true; the input reads as it did. -/
def jobBoundUptoRow : OpenClaim := { program := "ytoggnofdgmhbmaa", sum := "75414888fde0ffa72a0a15ed9cfad347205362470c8aa7b0c8e4629c9fa6b1d1", func := "escapement/escapementlaw17.JobBound", spec := "jobBound", apart := false, narrowed := true }
def JobBoundUptoSaid : Prop := jobBoundUptoRow.holds Try.pinned (OpenSpec.upto jobBoundSpec)

/-- 'escapementlaw17.JobNames', WHERE WHAT IT READS IS OF BULK AT MOST 1048576: true; the input reads as it did. -/
def jobNamesUptoRow : OpenClaim := { program := "ytoggnofdgmhbmaa", sum := "75414888fde0ffa72a0a15ed9cfad347205362470c8aa7b0c8e4629c9fa6b1d1", func := "escapement/escapementlaw17.JobNames", spec := "jobNames", apart := false, narrowed := true }
def JobNamesUptoSaid : Prop := jobNamesUptoRow.holds Try.pinned (OpenSpec.upto jobNamesSpec)

end Rows
end Go.Proofs.Ytoggnofdgmhbmaa
