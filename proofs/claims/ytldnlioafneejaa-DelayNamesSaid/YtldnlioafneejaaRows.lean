/-
  No cell of these rows narrows 'for every input' (looked for: loops, veiled, ifaces, maps, wideKeys, modest, calm, conditions, laid).
  DERIVED. THE GIVEN ROWS OF THIS SEAT. 5 by the template 'for every input the law returns true; each argument reads behind the call as it read before'; 0 by the template 'total and deterministic' (their statements: YtldnlioafneejaaTotals.lean).
  GIVEN WITH THE SEED: the statements are not yours to turn. If you find one false, say at which input.
  Laid BY PROGRAM, IN A SANDBOX (cutbox-rows.mjs): the forced cells as the released guide's own fill.sh prints them over the translation dce21ed411bb36ce… (all of the seat's roots in one cut). By AI agents, Wed Nov 11 2026. No macro, syntax, notation, axiom, sorry.
-/
import Derived.Test.YtldnlioafneejaaChecked
import GoSem.Claim
import GoSem.ClaimJoined
import GoSem.ClaimMapViews
import Derived.JoinedTies
import Derived.KernelRfl
namespace Go.Proofs.Ytldnlioafneejaa
/- THE CELL 'sum', in the pinned program and in every row, IS THE sha256 OF THE DUMP (.gsa) THAT YtldnlioafneejaaProg.lean LOADS. Nothing in Lean hashes anything: it is a label: what it is worth is what the hold of that sum in a sandbox is worth. -/
noncomputable def Try.pinned : Pinned := { name := "ytldnlioafneejaa", sum := "dce21ed411bb36cedef3c86b0a7f8cac452af55b00c4784c80ef5e3c4acb8372", checked := Try.checked }
namespace Rows
def none {H : Type} : Left H := { results := [], args := [] }

/-- 'escapementlaw09.DelayWaits': WHATEVER THE INPUT: true; the input reads as it did. -/
def delayWaitsSpec : ChangeSpec := { name := "delayWaits", fn := fun _ => fun
  | [d1, d2, d3] => { results := [.lit (.bool true)], args := [d1, d2, d3] }
  | _ => none }
def delayWaitsRow : OpenClaim := { program := "ytldnlioafneejaa", sum := "dce21ed411bb36cedef3c86b0a7f8cac452af55b00c4784c80ef5e3c4acb8372", func := "escapement/escapementlaw09.DelayWaits", spec := "delayWaits", unfollowed := true, recurses := true, apart := false }
def DelayWaitsSaid : Prop := delayWaitsRow.holds Try.pinned (OpenSpec.ofChange delayWaitsSpec)

/-- ITS FALSE NEIGHBOUR: 'it returns false'. Refute it at one input. -/
def delayWaitsWrong : ChangeSpec := { name := "delayWaits", fn := fun _ => fun
  | [d1, d2, d3] => { results := [.lit (.bool false)], args := [d1, d2, d3] }
  | _ => none }
def DelayWaitsWrongFalsely : Prop := delayWaitsRow.holds Try.pinned (OpenSpec.ofChange delayWaitsWrong)

/-- 'escapementlaw09.DelayOf': WHATEVER THE INPUT: true; the input reads as it did. -/
def delayOfSpec : ChangeSpec := { name := "delayOf", fn := fun _ => fun
  | [d1, d2, d3] => { results := [.lit (.bool true)], args := [d1, d2, d3] }
  | _ => none }
def delayOfRow : OpenClaim := { program := "ytldnlioafneejaa", sum := "dce21ed411bb36cedef3c86b0a7f8cac452af55b00c4784c80ef5e3c4acb8372", func := "escapement/escapementlaw09.DelayOf", spec := "delayOf", unfollowed := true, recurses := true, apart := false }
def DelayOfSaid : Prop := delayOfRow.holds Try.pinned (OpenSpec.ofChange delayOfSpec)

/-- ITS FALSE NEIGHBOUR: 'it returns false'. Refute it at one input. -/
def delayOfWrong : ChangeSpec := { name := "delayOf", fn := fun _ => fun
  | [d1, d2, d3] => { results := [.lit (.bool false)], args := [d1, d2, d3] }
  | _ => none }
def DelayOfWrongFalsely : Prop := delayOfRow.holds Try.pinned (OpenSpec.ofChange delayOfWrong)

/-- 'escapementlaw09.DelayGrows': WHATEVER THE INPUT: true; the input reads as it did. -/
def delayGrowsSpec : ChangeSpec := { name := "delayGrows", fn := fun _ => fun
  | [d1, d2, d3] => { results := [.lit (.bool true)], args := [d1, d2, d3] }
  | _ => none }
def delayGrowsRow : OpenClaim := { program := "ytldnlioafneejaa", sum := "dce21ed411bb36cedef3c86b0a7f8cac452af55b00c4784c80ef5e3c4acb8372", func := "escapement/escapementlaw09.DelayGrows", spec := "delayGrows", unfollowed := true, recurses := true, apart := false }
def DelayGrowsSaid : Prop := delayGrowsRow.holds Try.pinned (OpenSpec.ofChange delayGrowsSpec)

/-- ITS FALSE NEIGHBOUR: 'it returns false'. Refute it at one input. -/
def delayGrowsWrong : ChangeSpec := { name := "delayGrows", fn := fun _ => fun
  | [d1, d2, d3] => { results := [.lit (.bool false)], args := [d1, d2, d3] }
  | _ => none }
def DelayGrowsWrongFalsely : Prop := delayGrowsRow.holds Try.pinned (OpenSpec.ofChange delayGrowsWrong)

/-- 'escapementlaw09.DelayFalls': WHATEVER THE INPUT: true; the input reads as it did. -/
def delayFallsSpec : ChangeSpec := { name := "delayFalls", fn := fun _ => fun
  | [d1, d2, d3] => { results := [.lit (.bool true)], args := [d1, d2, d3] }
  | _ => none }
def delayFallsRow : OpenClaim := { program := "ytldnlioafneejaa", sum := "dce21ed411bb36cedef3c86b0a7f8cac452af55b00c4784c80ef5e3c4acb8372", func := "escapement/escapementlaw09.DelayFalls", spec := "delayFalls", unfollowed := true, recurses := true, apart := false }
def DelayFallsSaid : Prop := delayFallsRow.holds Try.pinned (OpenSpec.ofChange delayFallsSpec)

/-- ITS FALSE NEIGHBOUR: 'it returns false'. Refute it at one input. -/
def delayFallsWrong : ChangeSpec := { name := "delayFalls", fn := fun _ => fun
  | [d1, d2, d3] => { results := [.lit (.bool false)], args := [d1, d2, d3] }
  | _ => none }
def DelayFallsWrongFalsely : Prop := delayFallsRow.holds Try.pinned (OpenSpec.ofChange delayFallsWrong)

/-- 'escapementlaw09.DelayNames': WHATEVER THE INPUT: true; the input reads as it did. -/
def delayNamesSpec : ChangeSpec := { name := "delayNames", fn := fun _ => fun
  | [] => { results := [.lit (.bool true)], args := [] }
  | _ => none }
def delayNamesRow : OpenClaim := { program := "ytldnlioafneejaa", sum := "dce21ed411bb36cedef3c86b0a7f8cac452af55b00c4784c80ef5e3c4acb8372", func := "escapement/escapementlaw09.DelayNames", spec := "delayNames", unfollowed := true, recurses := true, apart := false }
def DelayNamesSaid : Prop := delayNamesRow.holds Try.pinned (OpenSpec.ofChange delayNamesSpec)

/-- ITS FALSE NEIGHBOUR: 'it returns false'. Refute it at one input. -/
def delayNamesWrong : ChangeSpec := { name := "delayNames", fn := fun _ => fun
  | [] => { results := [.lit (.bool false)], args := [] }
  | _ => none }
def DelayNamesWrongFalsely : Prop := delayNamesRow.holds Try.pinned (OpenSpec.ofChange delayNamesWrong)

/- THE SECOND FORM. 'bulk': how many values and letters a reading holds, each counted each time it is reached (what is shared counts as often as it is met; a slice's spare places count too). A statement '..UptoSaid' is the law's where the arguments, and the package variables that the reading takes, are together of bulk at most 1048576: NARROWER than '..Said'. Prove '..Said' where nothing that the law and all that it calls make is longer than what came in: it says more and counts as full. Else prove '..UptoSaid'. A law counts once. -/
mutual
def uptoBulk {H : Type} : DataW H → Nat
  | .lit (.string bytes) => bytes.length + 1
  | .lit _ => 1
  | .nil => 1
  | .ptr d => uptoBulk d + 1
  | .slice elems spare => uptoBulkAll elems + uptoBulkAll spare + 1
  | .agg parts => uptoBulkAll parts + 1
  | .iface _ d => uptoBulk d + 1
  | .map entries => uptoBulkEntries entries + 1
  | .held _ => 1
def uptoBulkAll {H : Type} : List (DataW H) → Nat
  | [] => 0
  | d :: r => uptoBulk d + uptoBulkAll r
def uptoBulkEntries {H : Type} : List (Lit × DataW H) → Nat
  | [] => 0
  | x :: r => uptoBulkEntry x + uptoBulkEntries r
def uptoBulkEntry {H : Type} : Lit × DataW H → Nat
  | (.string bytes, d) => bytes.length + uptoBulk d + 1
  | (_, d) => uptoBulk d + 1
 end
def uptoSmall : (H : Type) → List (DataW H) → Bool := fun _ ds => decide (uptoBulkAll ds ≤ 1048576)
def OpenSpec.upto (s : _root_.Go.ChangeSpec) : _root_.Go.OpenSpec := { _root_.Go.OpenSpec.ofChange s with cond := some uptoSmall }

/-- 'escapementlaw09.DelayWaits', WHERE WHAT IT READS IS OF BULK AT MOST 1048576: true; the input reads as it did. -/
def delayWaitsUptoRow : OpenClaim := { program := "ytldnlioafneejaa", sum := "dce21ed411bb36cedef3c86b0a7f8cac452af55b00c4784c80ef5e3c4acb8372", func := "escapement/escapementlaw09.DelayWaits", spec := "delayWaits", unfollowed := true, recurses := true, apart := false, narrowed := true }
def DelayWaitsUptoSaid : Prop := delayWaitsUptoRow.holds Try.pinned (OpenSpec.upto delayWaitsSpec)

/-- 'escapementlaw09.DelayOf', WHERE WHAT IT READS IS OF BULK AT MOST 1048576: true; the input reads as it did. -/
def delayOfUptoRow : OpenClaim := { program := "ytldnlioafneejaa", sum := "dce21ed411bb36cedef3c86b0a7f8cac452af55b00c4784c80ef5e3c4acb8372", func := "escapement/escapementlaw09.DelayOf", spec := "delayOf", unfollowed := true, recurses := true, apart := false, narrowed := true }
def DelayOfUptoSaid : Prop := delayOfUptoRow.holds Try.pinned (OpenSpec.upto delayOfSpec)

/-- 'escapementlaw09.DelayGrows', WHERE WHAT IT READS IS OF BULK AT MOST 1048576: true; the input reads as it did. -/
def delayGrowsUptoRow : OpenClaim := { program := "ytldnlioafneejaa", sum := "dce21ed411bb36cedef3c86b0a7f8cac452af55b00c4784c80ef5e3c4acb8372", func := "escapement/escapementlaw09.DelayGrows", spec := "delayGrows", unfollowed := true, recurses := true, apart := false, narrowed := true }
def DelayGrowsUptoSaid : Prop := delayGrowsUptoRow.holds Try.pinned (OpenSpec.upto delayGrowsSpec)

/-- 'escapementlaw09.DelayFalls', WHERE WHAT IT READS IS OF BULK AT MOST 1048576: true; the input reads as it did. -/
def delayFallsUptoRow : OpenClaim := { program := "ytldnlioafneejaa", sum := "dce21ed411bb36cedef3c86b0a7f8cac452af55b00c4784c80ef5e3c4acb8372", func := "escapement/escapementlaw09.DelayFalls", spec := "delayFalls", unfollowed := true, recurses := true, apart := false, narrowed := true }
def DelayFallsUptoSaid : Prop := delayFallsUptoRow.holds Try.pinned (OpenSpec.upto delayFallsSpec)

/-- 'escapementlaw09.DelayNames', WHERE WHAT IT READS IS OF BULK AT MOST 1048576: true; the input reads as it did. -/
def delayNamesUptoRow : OpenClaim := { program := "ytldnlioafneejaa", sum := "dce21ed411bb36cedef3c86b0a7f8cac452af55b00c4784c80ef5e3c4acb8372", func := "escapement/escapementlaw09.DelayNames", spec := "delayNames", unfollowed := true, recurses := true, apart := false, narrowed := true }
def DelayNamesUptoSaid : Prop := delayNamesUptoRow.holds Try.pinned (OpenSpec.upto delayNamesSpec)

end Rows
end Go.Proofs.Ytldnlioafneejaa
