/-
  No cell of these rows narrows 'for every input' (looked for: loops, veiled, ifaces, maps, wideKeys, modest, calm, conditions, laid).
  DERIVED. THE GIVEN ROWS OF THIS SEAT. 4 by the template 'for every input the law returns true; each argument reads behind the call as it read before'; 0 by the template 'total and deterministic' (their statements: YtafnpccpibekoaaTotals.lean).
  GIVEN WITH THE SEED: the statements are not yours to turn. If you find one false, say at which input.
  Laid BY PROGRAM, IN A SANDBOX (cutbox-rows.mjs): the forced cells as the released guide's own fill.sh prints them over the translation 846dea5bb9ebb53d… (all of the seat's roots in one cut). By AI agents, Wed Nov 11 2026. No macro, syntax, notation, axiom, sorry.
-/
import Derived.Test.YtafnpccpibekoaaChecked
import GoSem.Claim
import GoSem.ClaimJoined
import GoSem.ClaimMapViews
import Derived.JoinedTies
import Derived.KernelRfl
namespace Go.Proofs.Ytafnpccpibekoaa
/- THE CELL 'sum', in the pinned program and in every row, IS THE sha256 OF THE DUMP (.gsa) THAT YtafnpccpibekoaaProg.lean LOADS. Nothing in Lean hashes anything: it is a label: what it is worth is what the hold of that sum in a sandbox is worth. -/
noncomputable def Try.pinned : Pinned := { name := "ytafnpccpibekoaa", sum := "846dea5bb9ebb53d34fd726425366384ac3660c6f6b5e8c8042903feccbfcb2a", checked := Try.checked }
namespace Rows
def none {H : Type} : Left H := { results := [], args := [] }

/-- 'escapementlaw14.SporePlays': WHATEVER THE INPUT: true; the input reads as it did. -/
def sporePlaysSpec : ChangeSpec := { name := "sporePlays", fn := fun _ => fun
  | [d1, d2] => { results := [.lit (.bool true)], args := [d1, d2] }
  | _ => none }
def sporePlaysRow : OpenClaim := { program := "ytafnpccpibekoaa", sum := "846dea5bb9ebb53d34fd726425366384ac3660c6f6b5e8c8042903feccbfcb2a", func := "escapement/escapementlaw14.SporePlays", spec := "sporePlays", unfollowed := true, recurses := true, apart := false }
def SporePlaysSaid : Prop := sporePlaysRow.holds Try.pinned (OpenSpec.ofChange sporePlaysSpec)

/-- ITS FALSE NEIGHBOUR: 'it returns false'. Refute it at one input. -/
def sporePlaysWrong : ChangeSpec := { name := "sporePlays", fn := fun _ => fun
  | [d1, d2] => { results := [.lit (.bool false)], args := [d1, d2] }
  | _ => none }
def SporePlaysWrongFalsely : Prop := sporePlaysRow.holds Try.pinned (OpenSpec.ofChange sporePlaysWrong)

/-- 'escapementlaw14.SporeApart': WHATEVER THE INPUT: true; the input reads as it did. -/
def sporeApartSpec : ChangeSpec := { name := "sporeApart", fn := fun _ => fun
  | [d1, d2] => { results := [.lit (.bool true)], args := [d1, d2] }
  | _ => none }
def sporeApartRow : OpenClaim := { program := "ytafnpccpibekoaa", sum := "846dea5bb9ebb53d34fd726425366384ac3660c6f6b5e8c8042903feccbfcb2a", func := "escapement/escapementlaw14.SporeApart", spec := "sporeApart", unfollowed := true, recurses := true, apart := false }
def SporeApartSaid : Prop := sporeApartRow.holds Try.pinned (OpenSpec.ofChange sporeApartSpec)

/-- ITS FALSE NEIGHBOUR: 'it returns false'. Refute it at one input. -/
def sporeApartWrong : ChangeSpec := { name := "sporeApart", fn := fun _ => fun
  | [d1, d2] => { results := [.lit (.bool false)], args := [d1, d2] }
  | _ => none }
def SporeApartWrongFalsely : Prop := sporeApartRow.holds Try.pinned (OpenSpec.ofChange sporeApartWrong)

/-- 'escapementlaw14.SporeMany': WHATEVER THE INPUT: true; the input reads as it did. -/
def sporeManySpec : ChangeSpec := { name := "sporeMany", fn := fun _ => fun
  | [d1, d2, d3] => { results := [.lit (.bool true)], args := [d1, d2, d3] }
  | _ => none }
def sporeManyRow : OpenClaim := { program := "ytafnpccpibekoaa", sum := "846dea5bb9ebb53d34fd726425366384ac3660c6f6b5e8c8042903feccbfcb2a", func := "escapement/escapementlaw14.SporeMany", spec := "sporeMany", unfollowed := true, recurses := true, apart := false }
def SporeManySaid : Prop := sporeManyRow.holds Try.pinned (OpenSpec.ofChange sporeManySpec)

/-- ITS FALSE NEIGHBOUR: 'it returns false'. Refute it at one input. -/
def sporeManyWrong : ChangeSpec := { name := "sporeMany", fn := fun _ => fun
  | [d1, d2, d3] => { results := [.lit (.bool false)], args := [d1, d2, d3] }
  | _ => none }
def SporeManyWrongFalsely : Prop := sporeManyRow.holds Try.pinned (OpenSpec.ofChange sporeManyWrong)

/-- 'escapementlaw14.SporeKnown': WHATEVER THE INPUT: true; the input reads as it did. -/
def sporeKnownSpec : ChangeSpec := { name := "sporeKnown", fn := fun _ => fun
  | [] => { results := [.lit (.bool true)], args := [] }
  | _ => none }
def sporeKnownRow : OpenClaim := { program := "ytafnpccpibekoaa", sum := "846dea5bb9ebb53d34fd726425366384ac3660c6f6b5e8c8042903feccbfcb2a", func := "escapement/escapementlaw14.SporeKnown", spec := "sporeKnown", unfollowed := true, recurses := true, apart := false }
def SporeKnownSaid : Prop := sporeKnownRow.holds Try.pinned (OpenSpec.ofChange sporeKnownSpec)

/-- ITS FALSE NEIGHBOUR: 'it returns false'. Refute it at one input. -/
def sporeKnownWrong : ChangeSpec := { name := "sporeKnown", fn := fun _ => fun
  | [] => { results := [.lit (.bool false)], args := [] }
  | _ => none }
def SporeKnownWrongFalsely : Prop := sporeKnownRow.holds Try.pinned (OpenSpec.ofChange sporeKnownWrong)

/- THE SECOND FORM. 'bulk': how many values and letters a reading holds, each counted each time it is reached (what is shared counts as often as it is met; a slice's spare places count too). A statement '..UptoSaid' is the law's where the arguments, and the package variables that the reading takes, are together of bulk at most 1048576: NARROWER than '..Said'. Prove '..Said' where nothing that the law and all that it calls make is longer than what came in: it says more and counts as full. Else prove '..UptoSaid'. A law counts once. -/
mutual
def uptoBulk {H : Type} : DataW H → Nat
  | .lit (.string bytes) => bytes.length + 1
  | .lit _ => 1
  | .nil => 1
  | .ptr d => uptoBulk d + 1
  | .slice elems spare => uptoBulkAll elems + uptoBulkAll spare + 1
  | .agg parts => uptoBulkAll parts + 1
  | .iface _ d => uptoBulk d + 1
  | .map entries => uptoBulkEntries entries + 1
  | .held _ => 1
def uptoBulkAll {H : Type} : List (DataW H) → Nat
  | [] => 0
  | d :: r => uptoBulk d + uptoBulkAll r
def uptoBulkEntries {H : Type} : List (Lit × DataW H) → Nat
  | [] => 0
  | x :: r => uptoBulkEntry x + uptoBulkEntries r
def uptoBulkEntry {H : Type} : Lit × DataW H → Nat
  | (.string bytes, d) => bytes.length + uptoBulk d + 1
  | (_, d) => uptoBulk d + 1
 end
def uptoSmall : (H : Type) → List (DataW H) → Bool := fun _ ds => decide (uptoBulkAll ds ≤ 1048576)
def OpenSpec.upto (s : _root_.Go.ChangeSpec) : _root_.Go.OpenSpec := { _root_.Go.OpenSpec.ofChange s with cond := some uptoSmall }

/-- 'escapementlaw14.SporePlays', WHERE WHAT IT READS IS OF BULK AT MOST 1048576: true; the input reads as it did. -/
def sporePlaysUptoRow : OpenClaim := { program := "ytafnpccpibekoaa", sum := "846dea5bb9ebb53d34fd726425366384ac3660c6f6b5e8c8042903feccbfcb2a", func := "escapement/escapementlaw14.SporePlays", spec := "sporePlays", unfollowed := true, recurses := true, apart := false, narrowed := true }
def SporePlaysUptoSaid : Prop := sporePlaysUptoRow.holds Try.pinned (OpenSpec.upto sporePlaysSpec)

/-- 'escapementlaw14.SporeApart', WHERE WHAT IT READS IS OF BULK AT MOST 1048576: true; the input reads as it did. -/
def sporeApartUptoRow : OpenClaim := { program := "ytafnpccpibekoaa", sum := "846dea5bb9ebb53d34fd726425366384ac3660c6f6b5e8c8042903feccbfcb2a", func := "escapement/escapementlaw14.SporeApart", spec := "sporeApart", unfollowed := true, recurses := true, apart := false, narrowed := true }
def SporeApartUptoSaid : Prop := sporeApartUptoRow.holds Try.pinned (OpenSpec.upto sporeApartSpec)

/-- 'escapementlaw14.SporeMany', WHERE WHAT IT READS IS OF BULK AT MOST 1048576: true; the input reads as it did. -/
def sporeManyUptoRow : OpenClaim := { program := "ytafnpccpibekoaa", sum := "846dea5bb9ebb53d34fd726425366384ac3660c6f6b5e8c8042903feccbfcb2a", func := "escapement/escapementlaw14.SporeMany", spec := "sporeMany", unfollowed := true, recurses := true, apart := false, narrowed := true }
def SporeManyUptoSaid : Prop := sporeManyUptoRow.holds Try.pinned (OpenSpec.upto sporeManySpec)

/-- 'escapementlaw14.SporeKnown', WHERE WHAT IT READS IS OF BULK AT MOST 1048576: true; the input reads as it did. -/
def sporeKnownUptoRow : OpenClaim := { program := "ytafnpccpibekoaa", sum := "846dea5bb9ebb53d34fd726425366384ac3660c6f6b5e8c8042903feccbfcb2a", func := "escapement/escapementlaw14.SporeKnown", spec := "sporeKnown", unfollowed := true, recurses := true, apart := false, narrowed := true }
def SporeKnownUptoSaid : Prop := sporeKnownUptoRow.holds Try.pinned (OpenSpec.upto sporeKnownSpec)

end Rows
end Go.Proofs.Ytafnpccpibekoaa
