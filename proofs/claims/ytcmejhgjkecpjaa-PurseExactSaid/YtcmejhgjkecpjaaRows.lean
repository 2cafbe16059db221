/-
  No cell of these rows narrows 'for every input' (looked for: loops, veiled, ifaces, maps, wideKeys, modest, calm, conditions, laid).
  DERIVED. THE GIVEN ROWS OF THIS SEAT. 4 by the template 'for every input the law returns true; each argument reads behind the call as it read before'; 0 by the template 'total and deterministic' (their statements: YtcmejhgjkecpjaaTotals.lean).
  GIVEN WITH THE SEED: the statements are not yours to turn. If you find one false, say at which input.
  Laid BY PROGRAM, IN A SANDBOX (cutbox-rows.mjs): the forced cells as the released guide's own fill.sh prints them over the translation a17ac69f61d58f04… (all of the seat's roots in one cut). By AI agents, Wed Nov 11 2026. No macro, syntax, notation, axiom, sorry.
-/
import Derived.Test.YtcmejhgjkecpjaaChecked
import GoSem.Claim
import GoSem.ClaimJoined
import GoSem.ClaimMapViews
import Derived.JoinedTies
import Derived.KernelRfl
namespace Go.Proofs.Ytcmejhgjkecpjaa
/- THE CELL 'sum', in the pinned program and in every row, IS THE sha256 OF THE DUMP (.gsa) THAT YtcmejhgjkecpjaaProg.lean LOADS. Nothing in Lean hashes anything: it is a label: what it is worth is what the hold of that sum in a sandbox is worth. -/
noncomputable def Try.pinned : Pinned := { name := "ytcmejhgjkecpjaa", sum := "a17ac69f61d58f049a54219279b8a9458989a5ea2c0956daab3f5b467d054db2", checked := Try.checked }
namespace Rows
def none {H : Type} : Left H := { results := [], args := [] }

/-- 'escapementlaw19.PursePlays': WHATEVER THE INPUT: true; the input reads as it did. -/
def pursePlaysSpec : ChangeSpec := { name := "pursePlays", fn := fun _ => fun
  | [d1, d2, d3] => { results := [.lit (.bool true)], args := [d1, d2, d3] }
  | _ => none }
def pursePlaysRow : OpenClaim := { program := "ytcmejhgjkecpjaa", sum := "a17ac69f61d58f049a54219279b8a9458989a5ea2c0956daab3f5b467d054db2", func := "escapement/escapementlaw19.PursePlays", spec := "pursePlays", apart := false }
def PursePlaysSaid : Prop := pursePlaysRow.holds Try.pinned (OpenSpec.ofChange pursePlaysSpec)

/-- ITS FALSE NEIGHBOUR: 'it returns false'. Refute it at one input. -/
def pursePlaysWrong : ChangeSpec := { name := "pursePlays", fn := fun _ => fun
  | [d1, d2, d3] => { results := [.lit (.bool false)], args := [d1, d2, d3] }
  | _ => none }
def PursePlaysWrongFalsely : Prop := pursePlaysRow.holds Try.pinned (OpenSpec.ofChange pursePlaysWrong)

/-- 'escapementlaw19.PurseBegins': WHATEVER THE INPUT: true; the input reads as it did. -/
def purseBeginsSpec : ChangeSpec := { name := "purseBegins", fn := fun _ => fun
  | [d1, d2, d3] => { results := [.lit (.bool true)], args := [d1, d2, d3] }
  | _ => none }
def purseBeginsRow : OpenClaim := { program := "ytcmejhgjkecpjaa", sum := "a17ac69f61d58f049a54219279b8a9458989a5ea2c0956daab3f5b467d054db2", func := "escapement/escapementlaw19.PurseBegins", spec := "purseBegins", apart := false }
def PurseBeginsSaid : Prop := purseBeginsRow.holds Try.pinned (OpenSpec.ofChange purseBeginsSpec)

/-- ITS FALSE NEIGHBOUR: 'it returns false'. Refute it at one input. -/
def purseBeginsWrong : ChangeSpec := { name := "purseBegins", fn := fun _ => fun
  | [d1, d2, d3] => { results := [.lit (.bool false)], args := [d1, d2, d3] }
  | _ => none }
def PurseBeginsWrongFalsely : Prop := purseBeginsRow.holds Try.pinned (OpenSpec.ofChange purseBeginsWrong)

/-- 'escapementlaw19.PurseExact': WHATEVER THE INPUT: true; the input reads as it did. -/
def purseExactSpec : ChangeSpec := { name := "purseExact", fn := fun _ => fun
  | [d1, d2, d3] => { results := [.lit (.bool true)], args := [d1, d2, d3] }
  | _ => none }
def purseExactRow : OpenClaim := { program := "ytcmejhgjkecpjaa", sum := "a17ac69f61d58f049a54219279b8a9458989a5ea2c0956daab3f5b467d054db2", func := "escapement/escapementlaw19.PurseExact", spec := "purseExact", apart := false }
def PurseExactSaid : Prop := purseExactRow.holds Try.pinned (OpenSpec.ofChange purseExactSpec)

/-- ITS FALSE NEIGHBOUR: 'it returns false'. Refute it at one input. -/
def purseExactWrong : ChangeSpec := { name := "purseExact", fn := fun _ => fun
  | [d1, d2, d3] => { results := [.lit (.bool false)], args := [d1, d2, d3] }
  | _ => none }
def PurseExactWrongFalsely : Prop := purseExactRow.holds Try.pinned (OpenSpec.ofChange purseExactWrong)

/-- 'escapementlaw19.PurseNames': WHATEVER THE INPUT: true; the input reads as it did. -/
def purseNamesSpec : ChangeSpec := { name := "purseNames", fn := fun _ => fun
  | [] => { results := [.lit (.bool true)], args := [] }
  | _ => none }
def purseNamesRow : OpenClaim := { program := "ytcmejhgjkecpjaa", sum := "a17ac69f61d58f049a54219279b8a9458989a5ea2c0956daab3f5b467d054db2", func := "escapement/escapementlaw19.PurseNames", spec := "purseNames", apart := false }
def PurseNamesSaid : Prop := purseNamesRow.holds Try.pinned (OpenSpec.ofChange purseNamesSpec)

/-- ITS FALSE NEIGHBOUR: 'it returns false'. Refute it at one input. -/
def purseNamesWrong : ChangeSpec := { name := "purseNames", fn := fun _ => fun
  | [] => { results := [.lit (.bool false)], args := [] }
  | _ => none }
def PurseNamesWrongFalsely : Prop := purseNamesRow.holds Try.pinned (OpenSpec.ofChange purseNamesWrong)

/- THE SECOND FORM. 'bulk': how many values and letters a reading holds, each counted each time it is reached (what is shared counts as often as it is met; a slice's spare places count too). A statement '..UptoSaid' is the law's where the arguments, and the package variables that the reading takes, are together of bulk at most 1048576: NARROWER than '..Said'. Prove '..Said' where nothing that the law and all that it calls make is longer than what came in: it says more and counts as full. Else prove '..UptoSaid'. A law counts once. -/
mutual
def uptoBulk {H : Type} : DataW H → Nat
  | .lit (.string bytes) => bytes.length + 1
  | .lit _ => 1
  | .nil => 1
  | .ptr d => uptoBulk d + 1
  | .slice elems spare => uptoBulkAll elems + uptoBulkAll spare + 1
  | .agg parts => uptoBulkAll parts + 1
  | .iface _ d => uptoBulk d + 1
  | .map entries => uptoBulkEntries entries + 1
  | .held _ => 1
def uptoBulkAll {H : Type} : List (DataW H) → Nat
  | [] => 0
  | d :: r => uptoBulk d + uptoBulkAll r
def uptoBulkEntries {H : Type} : List (Lit × DataW H) → Nat
  | [] => 0
  | x :: r => uptoBulkEntry x + uptoBulkEntries r
def uptoBulkEntry {H : Type} : Lit × DataW H → Nat
  | (.string bytes, d) => bytes.length + uptoBulk d + 1
  | (_, d) => uptoBulk d + 1
 end
def uptoSmall : (H : Type) → List (DataW H) → Bool := fun _ ds => decide (uptoBulkAll ds ≤ 1048576)
def OpenSpec.upto (s : _root_.Go.ChangeSpec) : _root_.Go.OpenSpec := { _root_.Go.OpenSpec.ofChange s with cond := some uptoSmall }

/-- 'escapementlaw19.PursePlays', WHERE WHAT IT READS IS OF BULK AT MOST 1048576: true; the input reads as it did. -/
def pursePlaysUptoRow : OpenClaim := { program := "ytcmejhgjkecpjaa", sum := "a17ac69f61d58f049a54219279b8a9458989a5ea2c0956daab3f5b467d054db2", func := "escapement/escapementlaw19.PursePlays", spec := "pursePlays", apart := false, narrowed := true }
def PursePlaysUptoSaid : Prop := pursePlaysUptoRow.holds Try.pinned (OpenSpec.upto pursePlaysSpec)

/-- 'escapementlaw19.PurseBegins', WHERE WHAT IT READS IS OF BULK AT MOST 1048576: true; the input reads as it did. -/
def purseBeginsUptoRow : OpenClaim := { program := "ytcmejhgjkecpjaa", sum := "a17ac69f61d58f049a54219279b8a9458989a5ea2c0956daab3f5b467d054db2", func := "escapement/escapementlaw19.PurseBegins", spec := "purseBegins", apart := false, narrowed := true }
def PurseBeginsUptoSaid : Prop := purseBeginsUptoRow.holds Try.pinned (OpenSpec.upto purseBeginsSpec)

/-- 'escapementlaw19.PurseExact', WHERE WHAT IT READS IS OF BULK AT MOST 1048576: true; the input reads as it did. -/
def purseExactUptoRow : OpenClaim := { program := "ytcmejhgjkecpjaa", sum := "a17ac69f61d58f049a54219279b8a9458989a5ea2c0956daab3f5b467d054db2", func := "escapement/escapementlaw19.PurseExact", spec := "purseExact", apart := false, narrowed := true }
def PurseExactUptoSaid : Prop := purseExactUptoRow.holds Try.pinned (OpenSpec.upto purseExactSpec)

/-- 'escapementlaw19.PurseNames', WHERE WHAT IT READS IS OF BULK AT MOST 1048576: true; the input reads as it did. -/
def purseNamesUptoRow : OpenClaim := { program := "ytcmejhgjkecpjaa", sum := "a17ac69f61d58f049a54219279b8a9458989a5ea2c0956daab3f5b467d054db2", func := "escapement/escapementlaw19.PurseNames", spec := "purseNames", apart := false, narrowed := true }
def PurseNamesUptoSaid : Prop := purseNamesUptoRow.holds Try.pinned (OpenSpec.upto purseNamesSpec)

end Rows
end Go.Proofs.Ytcmejhgjkecpjaa
