/-
  No cell of these rows narrows 'for every input' (looked for: loops, veiled, ifaces, maps, wideKeys, modest, calm, conditions, laid).
  DERIVED. THE GIVEN ROWS OF THIS SEAT. 4 by the template 'for every input the law returns true; each argument reads behind the call as it read before'; 0 by the template 'total and deterministic' (their statements: YtmdckfekjbhcfaaTotals.lean).
  GIVEN WITH THE SEED: the statements are not yours to turn. If you find one false, say at which input.
  Laid BY PROGRAM, IN A SANDBOX (cutbox-rows.mjs): the forced cells as the released guide's own fill.sh prints them over the translation 08bc34e6a35882c0… (all of the seat's roots in one cut). By AI agents, Wed Nov 11 2026. No macro, syntax, notation, axiom, sorry.
-/
import Derived.Test.YtmdckfekjbhcfaaChecked
import GoSem.Claim
import GoSem.ClaimJoined
import GoSem.ClaimMapViews
import Derived.JoinedTies
import Derived.KernelRfl
namespace Go.Proofs.Ytmdckfekjbhcfaa
/- THE CELL 'sum', in the pinned program and in every row, IS THE sha256 OF THE DUMP (.gsa) THAT YtmdckfekjbhcfaaProg.lean LOADS. Nothing in Lean hashes anything: it is a label: what it is worth is what the hold of that sum in a sandbox is worth. -/
noncomputable def Try.pinned : Pinned := { name := "ytmdckfekjbhcfaa", sum := "08bc34e6a35882c0fc6f193a802219ac9b58571f500b60b64b7799df951613a6", checked := Try.checked }
namespace Rows
def none {H : Type} : Left H := { results := [], args := [] }

/-- 'escapementlaw15.ReadyPlays': WHATEVER THE INPUT: true; the input reads as it did. -/
def readyPlaysSpec : ChangeSpec := { name := "readyPlays", fn := fun _ => fun
  | [d1, d2] => { results := [.lit (.bool true)], args := [d1, d2] }
  | _ => none }
def readyPlaysRow : OpenClaim := { program := "ytmdckfekjbhcfaa", sum := "08bc34e6a35882c0fc6f193a802219ac9b58571f500b60b64b7799df951613a6", func := "escapement/escapementlaw15.ReadyPlays", spec := "readyPlays", unfollowed := true, recurses := true, apart := false }
def ReadyPlaysSaid : Prop := readyPlaysRow.holds Try.pinned (OpenSpec.ofChange readyPlaysSpec)

/-- ITS FALSE NEIGHBOUR: 'it returns false'. Refute it at one input. -/
def readyPlaysWrong : ChangeSpec := { name := "readyPlays", fn := fun _ => fun
  | [d1, d2] => { results := [.lit (.bool false)], args := [d1, d2] }
  | _ => none }
def ReadyPlaysWrongFalsely : Prop := readyPlaysRow.holds Try.pinned (OpenSpec.ofChange readyPlaysWrong)

/-- 'escapementlaw15.ReadyFirst': WHATEVER THE INPUT: true; the input reads as it did. -/
def readyFirstSpec : ChangeSpec := { name := "readyFirst", fn := fun _ => fun
  | [d1, d2] => { results := [.lit (.bool true)], args := [d1, d2] }
  | _ => none }
def readyFirstRow : OpenClaim := { program := "ytmdckfekjbhcfaa", sum := "08bc34e6a35882c0fc6f193a802219ac9b58571f500b60b64b7799df951613a6", func := "escapement/escapementlaw15.ReadyFirst", spec := "readyFirst", unfollowed := true, recurses := true, apart := false }
def ReadyFirstSaid : Prop := readyFirstRow.holds Try.pinned (OpenSpec.ofChange readyFirstSpec)

/-- ITS FALSE NEIGHBOUR: 'it returns false'. Refute it at one input. -/
def readyFirstWrong : ChangeSpec := { name := "readyFirst", fn := fun _ => fun
  | [d1, d2] => { results := [.lit (.bool false)], args := [d1, d2] }
  | _ => none }
def ReadyFirstWrongFalsely : Prop := readyFirstRow.holds Try.pinned (OpenSpec.ofChange readyFirstWrong)

/-- 'escapementlaw15.ReadyMixed': WHATEVER THE INPUT: true; the input reads as it did. -/
def readyMixedSpec : ChangeSpec := { name := "readyMixed", fn := fun _ => fun
  | [d1, d2, d3] => { results := [.lit (.bool true)], args := [d1, d2, d3] }
  | _ => none }
def readyMixedRow : OpenClaim := { program := "ytmdckfekjbhcfaa", sum := "08bc34e6a35882c0fc6f193a802219ac9b58571f500b60b64b7799df951613a6", func := "escapement/escapementlaw15.ReadyMixed", spec := "readyMixed", unfollowed := true, recurses := true, apart := false }
def ReadyMixedSaid : Prop := readyMixedRow.holds Try.pinned (OpenSpec.ofChange readyMixedSpec)

/-- ITS FALSE NEIGHBOUR: 'it returns false'. Refute it at one input. -/
def readyMixedWrong : ChangeSpec := { name := "readyMixed", fn := fun _ => fun
  | [d1, d2, d3] => { results := [.lit (.bool false)], args := [d1, d2, d3] }
  | _ => none }
def ReadyMixedWrongFalsely : Prop := readyMixedRow.holds Try.pinned (OpenSpec.ofChange readyMixedWrong)

/-- 'escapementlaw15.ReadyKnown': WHATEVER THE INPUT: true; the input reads as it did. -/
def readyKnownSpec : ChangeSpec := { name := "readyKnown", fn := fun _ => fun
  | [] => { results := [.lit (.bool true)], args := [] }
  | _ => none }
def readyKnownRow : OpenClaim := { program := "ytmdckfekjbhcfaa", sum := "08bc34e6a35882c0fc6f193a802219ac9b58571f500b60b64b7799df951613a6", func := "escapement/escapementlaw15.ReadyKnown", spec := "readyKnown", unfollowed := true, recurses := true, apart := false }
def ReadyKnownSaid : Prop := readyKnownRow.holds Try.pinned (OpenSpec.ofChange readyKnownSpec)

/-- ITS FALSE NEIGHBOUR: 'it returns false'. Refute it at one input. -/
def readyKnownWrong : ChangeSpec := { name := "readyKnown", fn := fun _ => fun
  | [] => { results := [.lit (.bool false)], args := [] }
  | _ => none }
def ReadyKnownWrongFalsely : Prop := readyKnownRow.holds Try.pinned (OpenSpec.ofChange readyKnownWrong)

/- THE SECOND FORM. 'bulk': how many values and letters a reading holds, each counted each time it is reached (what is shared counts as often as it is met; a slice's spare places count too). A statement '..UptoSaid' is the law's where the arguments, and the package variables that the reading takes, are together of bulk at most 1048576: NARROWER than '..Said'. Prove '..Said' where nothing that the law and all that it calls make is longer than what came in: it says more and counts as full. Else prove '..UptoSaid'. A law counts once. -/
mutual
def uptoBulk {H : Type} : DataW H → Nat
  | .lit (.string bytes) => bytes.length + 1
  | .lit _ => 1
  | .nil => 1
  | .ptr d => uptoBulk d + 1
  | .slice elems spare => uptoBulkAll elems + uptoBulkAll spare + 1
  | .agg parts => uptoBulkAll parts + 1
  | .iface _ d => uptoBulk d + 1
  | .map entries => uptoBulkEntries entries + 1
  | .held _ => 1
def uptoBulkAll {H : Type} : List (DataW H) → Nat
  | [] => 0
  | d :: r => uptoBulk d + uptoBulkAll r
def uptoBulkEntries {H : Type} : List (Lit × DataW H) → Nat
  | [] => 0
  | x :: r => uptoBulkEntry x + uptoBulkEntries r
def uptoBulkEntry {H : Type} : Lit × DataW H → Nat
  | (.string bytes, d) => bytes.length + uptoBulk d + 1
  | (_, d) => uptoBulk d + 1
 end
def uptoSmall : (H : Type) → List (DataW H) → Bool := fun _ ds => decide (uptoBulkAll ds ≤ 1048576)
def OpenSpec.upto (s : _root_.Go.ChangeSpec) : _root_.Go.OpenSpec := { _root_.Go.OpenSpec.ofChange s with cond := some uptoSmall }

/-- 'escapementlaw15.ReadyPlays', WHERE WHAT IT READS IS OF BULK AT MOST 1048576: true; the input reads as it did. -/
def readyPlaysUptoRow : OpenClaim := { program := "ytmdckfekjbhcfaa", sum := "08bc34e6a35882c0fc6f193a802219ac9b58571f500b60b64b7799df951613a6", func := "escapement/escapementlaw15.ReadyPlays", spec := "readyPlays", unfollowed := true, recurses := true, apart := false, narrowed := true }
def ReadyPlaysUptoSaid : Prop := readyPlaysUptoRow.holds Try.pinned (OpenSpec.upto readyPlaysSpec)

/-- 'escapementlaw15.ReadyFirst', WHERE WHAT IT READS IS OF BULK AT MOST 1048576: true; the input reads as it did. -/
def readyFirstUptoRow : OpenClaim := { program := "ytmdckfekjbhcfaa", sum := "08bc34e6a35882c0fc6f193a802219ac9b58571f500b60b64b7799df951613a6", func := "escapement/escapementlaw15.ReadyFirst", spec := "readyFirst", unfollowed := true, recurses := true, apart := false, narrowed := true }
def ReadyFirstUptoSaid : Prop := readyFirstUptoRow.holds Try.pinned (OpenSpec.upto readyFirstSpec)

/-- 'escapementlaw15.ReadyMixed', WHERE WHAT IT READS IS OF BULK AT MOST 1048576: true; the input reads as it did. -/
def readyMixedUptoRow : OpenClaim := { program := "ytmdckfekjbhcfaa", sum := "08bc34e6a35882c0fc6f193a802219ac9b58571f500b60b64b7799df951613a6", func := "escapement/escapementlaw15.ReadyMixed", spec := "readyMixed", unfollowed := true, recurses := true, apart := false, narrowed := true }
def ReadyMixedUptoSaid : Prop := readyMixedUptoRow.holds Try.pinned (OpenSpec.upto readyMixedSpec)

/-- 'escapementlaw15.ReadyKnown', WHERE WHAT IT READS IS OF BULK AT MOST 1048576: true; the input reads as it did. -/
def readyKnownUptoRow : OpenClaim := { program := "ytmdckfekjbhcfaa", sum := "08bc34e6a35882c0fc6f193a802219ac9b58571f500b60b64b7799df951613a6", func := "escapement/escapementlaw15.ReadyKnown", spec := "readyKnown", unfollowed := true, recurses := true, apart := false, narrowed := true }
def ReadyKnownUptoSaid : Prop := readyKnownUptoRow.holds Try.pinned (OpenSpec.upto readyKnownSpec)

end Rows
end Go.Proofs.Ytmdckfekjbhcfaa
