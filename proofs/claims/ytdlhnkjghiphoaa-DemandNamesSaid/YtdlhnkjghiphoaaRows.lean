/-
  No cell of these rows narrows 'for every input' (looked for: loops, veiled, ifaces, maps, wideKeys, modest, calm, conditions, laid).
  DERIVED. THE GIVEN ROWS OF THIS SEAT. 5 by the template 'for every input the law returns true; each argument reads behind the call as it read before'; 0 by the template 'total and deterministic' (their statements: YtdlhnkjghiphoaaTotals.lean).
  GIVEN WITH THE SEED: the statements are not yours to turn. If you find one false, say at which input.
  Laid BY PROGRAM, IN A SANDBOX (cutbox-rows.mjs): the forced cells as the released guide's own fill.sh prints them over the translation 047a42917995b91e… (all of the seat's roots in one cut). By AI agents, Wed Nov 11 2026. No macro, syntax, notation, axiom, sorry.
-/
import Derived.Test.YtdlhnkjghiphoaaChecked
import GoSem.Claim
import GoSem.ClaimJoined
import GoSem.ClaimMapViews
import Derived.JoinedTies
import Derived.KernelRfl
namespace Go.Proofs.Ytdlhnkjghiphoaa
/- THE CELL 'sum', in the pinned program and in every row, IS THE sha256 OF THE DUMP (.gsa) THAT YtdlhnkjghiphoaaProg.lean LOADS. Nothing in Lean hashes anything: it is a label: what it is worth is what the hold of that sum in a sandbox is worth. -/
noncomputable def Try.pinned : Pinned := { name := "ytdlhnkjghiphoaa", sum := "047a42917995b91e28f1f200732c749bbfd3906a61b168476b17ea80bc7e5554", checked := Try.checked }
namespace Rows
def none {H : Type} : Left H := { results := [], args := [] }

/-- 'escapementlaw08.DemandOf': WHATEVER THE INPUT: true; the input reads as it did. -/
def demandOfSpec : ChangeSpec := { name := "demandOf", fn := fun _ => fun
  | [d1, d2, d3] => { results := [.lit (.bool true)], args := [d1, d2, d3] }
  | _ => none }
def demandOfRow : OpenClaim := { program := "ytdlhnkjghiphoaa", sum := "047a42917995b91e28f1f200732c749bbfd3906a61b168476b17ea80bc7e5554", func := "escapement/escapementlaw08.DemandOf", spec := "demandOf", unfollowed := true, recurses := true, apart := false }
def DemandOfSaid : Prop := demandOfRow.holds Try.pinned (OpenSpec.ofChange demandOfSpec)

/-- ITS FALSE NEIGHBOUR: 'it returns false'. Refute it at one input. -/
def demandOfWrong : ChangeSpec := { name := "demandOf", fn := fun _ => fun
  | [d1, d2, d3] => { results := [.lit (.bool false)], args := [d1, d2, d3] }
  | _ => none }
def DemandOfWrongFalsely : Prop := demandOfRow.holds Try.pinned (OpenSpec.ofChange demandOfWrong)

/-- 'escapementlaw08.DemandUse': WHATEVER THE INPUT: true; the input reads as it did. -/
def demandUseSpec : ChangeSpec := { name := "demandUse", fn := fun _ => fun
  | [d1, d2, d3] => { results := [.lit (.bool true)], args := [d1, d2, d3] }
  | _ => none }
def demandUseRow : OpenClaim := { program := "ytdlhnkjghiphoaa", sum := "047a42917995b91e28f1f200732c749bbfd3906a61b168476b17ea80bc7e5554", func := "escapement/escapementlaw08.DemandUse", spec := "demandUse", unfollowed := true, recurses := true, apart := false }
def DemandUseSaid : Prop := demandUseRow.holds Try.pinned (OpenSpec.ofChange demandUseSpec)

/-- ITS FALSE NEIGHBOUR: 'it returns false'. Refute it at one input. -/
def demandUseWrong : ChangeSpec := { name := "demandUse", fn := fun _ => fun
  | [d1, d2, d3] => { results := [.lit (.bool false)], args := [d1, d2, d3] }
  | _ => none }
def DemandUseWrongFalsely : Prop := demandUseRow.holds Try.pinned (OpenSpec.ofChange demandUseWrong)

/-- 'escapementlaw08.DemandSound': WHATEVER THE INPUT: true; the input reads as it did. -/
def demandSoundSpec : ChangeSpec := { name := "demandSound", fn := fun _ => fun
  | [d1, d2, d3] => { results := [.lit (.bool true)], args := [d1, d2, d3] }
  | _ => none }
def demandSoundRow : OpenClaim := { program := "ytdlhnkjghiphoaa", sum := "047a42917995b91e28f1f200732c749bbfd3906a61b168476b17ea80bc7e5554", func := "escapement/escapementlaw08.DemandSound", spec := "demandSound", unfollowed := true, recurses := true, apart := false }
def DemandSoundSaid : Prop := demandSoundRow.holds Try.pinned (OpenSpec.ofChange demandSoundSpec)

/-- ITS FALSE NEIGHBOUR: 'it returns false'. Refute it at one input. -/
def demandSoundWrong : ChangeSpec := { name := "demandSound", fn := fun _ => fun
  | [d1, d2, d3] => { results := [.lit (.bool false)], args := [d1, d2, d3] }
  | _ => none }
def DemandSoundWrongFalsely : Prop := demandSoundRow.holds Try.pinned (OpenSpec.ofChange demandSoundWrong)

/-- 'escapementlaw08.DemandMore': WHATEVER THE INPUT: true; the input reads as it did. -/
def demandMoreSpec : ChangeSpec := { name := "demandMore", fn := fun _ => fun
  | [d1, d2, d3] => { results := [.lit (.bool true)], args := [d1, d2, d3] }
  | _ => none }
def demandMoreRow : OpenClaim := { program := "ytdlhnkjghiphoaa", sum := "047a42917995b91e28f1f200732c749bbfd3906a61b168476b17ea80bc7e5554", func := "escapement/escapementlaw08.DemandMore", spec := "demandMore", unfollowed := true, recurses := true, apart := false }
def DemandMoreSaid : Prop := demandMoreRow.holds Try.pinned (OpenSpec.ofChange demandMoreSpec)

/-- ITS FALSE NEIGHBOUR: 'it returns false'. Refute it at one input. -/
def demandMoreWrong : ChangeSpec := { name := "demandMore", fn := fun _ => fun
  | [d1, d2, d3] => { results := [.lit (.bool false)], args := [d1, d2, d3] }
  | _ => none }
def DemandMoreWrongFalsely : Prop := demandMoreRow.holds Try.pinned (OpenSpec.ofChange demandMoreWrong)

/-- 'escapementlaw08.DemandNames': WHATEVER THE INPUT: true; the input reads as it did. -/
def demandNamesSpec : ChangeSpec := { name := "demandNames", fn := fun _ => fun
  | [] => { results := [.lit (.bool true)], args := [] }
  | _ => none }
def demandNamesRow : OpenClaim := { program := "ytdlhnkjghiphoaa", sum := "047a42917995b91e28f1f200732c749bbfd3906a61b168476b17ea80bc7e5554", func := "escapement/escapementlaw08.DemandNames", spec := "demandNames", unfollowed := true, recurses := true, apart := false }
def DemandNamesSaid : Prop := demandNamesRow.holds Try.pinned (OpenSpec.ofChange demandNamesSpec)

/-- ITS FALSE NEIGHBOUR: 'it returns false'. Refute it at one input. -/
def demandNamesWrong : ChangeSpec := { name := "demandNames", fn := fun _ => fun
  | [] => { results := [.lit (.bool false)], args := [] }
  | _ => none }
def DemandNamesWrongFalsely : Prop := demandNamesRow.holds Try.pinned (OpenSpec.ofChange demandNamesWrong)

/- THE SECOND FORM. 'bulk': how many values and letters a reading holds, each counted each time it is reached (what is shared counts as often as it is met; a slice's spare places count too). A statement '..UptoSaid' is the law's where the arguments, and the package variables that the reading takes, are together of bulk at most 1048576: NARROWER than '..Said'. Prove '..Said' where nothing that the law and all that it calls make is longer than what came in: it says more and counts as full. Else prove '..UptoSaid'. A law counts once. -/
mutual
def uptoBulk {H : Type} : DataW H → Nat
  | .lit (.string bytes) => bytes.length + 1
  | .lit _ => 1
  | .nil => 1
  | .ptr d => uptoBulk d + 1
  | .slice elems spare => uptoBulkAll elems + uptoBulkAll spare + 1
  | .agg parts => uptoBulkAll parts + 1
  | .iface _ d => uptoBulk d + 1
  | .map entries => uptoBulkEntries entries + 1
  | .held _ => 1
def uptoBulkAll {H : Type} : List (DataW H) → Nat
  | [] => 0
  | d :: r => uptoBulk d + uptoBulkAll r
def uptoBulkEntries {H : Type} : List (Lit × DataW H) → Nat
  | [] => 0
  | x :: r => uptoBulkEntry x + uptoBulkEntries r
def uptoBulkEntry {H : Type} : Lit × DataW H → Nat
  | (.string bytes, d) => bytes.length + uptoBulk d + 1
  | (_, d) => uptoBulk d + 1
 end
def uptoSmall : (H : Type) → List (DataW H) → Bool := fun _ ds => decide (uptoBulkAll ds ≤ 1048576)
def OpenSpec.upto (s : _root_.Go.ChangeSpec) : _root_.Go.OpenSpec := { _root_.Go.OpenSpec.ofChange s with cond := some uptoSmall }

/-- 'escapementlaw08.DemandOf', WHERE WHAT IT READS IS OF BULK AT MOST 1048576: true; the input reads as it did. -/
def demandOfUptoRow : OpenClaim := { program := "ytdlhnkjghiphoaa", sum := "047a42917995b91e28f1f200732c749bbfd3906a61b168476b17ea80bc7e5554", func := "escapement/escapementlaw08.DemandOf", spec := "demandOf", unfollowed := true, recurses := true, apart := false, narrowed := true }
def DemandOfUptoSaid : Prop := demandOfUptoRow.holds Try.pinned (OpenSpec.upto demandOfSpec)

/-- 'escapementlaw08.DemandUse', WHERE WHAT IT READS IS OF BULK AT MOST 1048576: true; the input reads as it did. -/
def demandUseUptoRow : OpenClaim := { program := "ytdlhnkjghiphoaa", sum := "047a42917995b91e28f1f200732c749bbfd3906a61b168476b17ea80bc7e5554", func := "escapement/escapementlaw08.DemandUse", spec := "demandUse", unfollowed := true, recurses := true, apart := false, narrowed := true }
def DemandUseUptoSaid : Prop := demandUseUptoRow.holds Try.pinned (OpenSpec.upto demandUseSpec)

/-- 'escapementlaw08.DemandSound', WHERE WHAT IT READS IS OF BULK AT MOST 1048576: true; the input reads as it did. -/
def demandSoundUptoRow : OpenClaim := { program := "ytdlhnkjghiphoaa", sum := "047a42917995b91e28f1f200732c749bbfd3906a61b168476b17ea80bc7e5554", func := "escapement/escapementlaw08.DemandSound", spec := "demandSound", unfollowed := true, recurses := true, apart := false, narrowed := true }
def DemandSoundUptoSaid : Prop := demandSoundUptoRow.holds Try.pinned (OpenSpec.upto demandSoundSpec)

/-- 'escapementlaw08.DemandMore', WHERE WHAT IT READS IS OF BULK AT MOST 1048576: true; the input reads as it did. -/
def demandMoreUptoRow : OpenClaim := { program := "ytdlhnkjghiphoaa", sum := "047a42917995b91e28f1f200732c749bbfd3906a61b168476b17ea80bc7e5554", func := "escapement/escapementlaw08.DemandMore", spec := "demandMore", unfollowed := true, recurses := true, apart := false, narrowed := true }
def DemandMoreUptoSaid : Prop := demandMoreUptoRow.holds Try.pinned (OpenSpec.upto demandMoreSpec)

/-- 'escapementlaw08.DemandNames', WHERE WHAT IT READS IS OF BULK AT MOST 1048576: true; the input reads as it did. -/
def demandNamesUptoRow : OpenClaim := { program := "ytdlhnkjghiphoaa", sum := "047a42917995b91e28f1f200732c749bbfd3906a61b168476b17ea80bc7e5554", func := "escapement/escapementlaw08.DemandNames", spec := "demandNames", unfollowed := true, recurses := true, apart := false, narrowed := true }
def DemandNamesUptoSaid : Prop := demandNamesUptoRow.holds Try.pinned (OpenSpec.upto demandNamesSpec)

end Rows
end Go.Proofs.Ytdlhnkjghiphoaa
