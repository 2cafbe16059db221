/-
  No cell of these rows narrows 'for every input' (looked for: loops, veiled, ifaces, maps, wideKeys, modest, calm, conditions, laid).
  DERIVED. THE GIVEN ROWS OF THIS SEAT. 5 by the template 'for every input the law returns true; each argument reads behind the call as it read before'; 0 by the template 'total and deterministic' (their statements: YtfjeoefnpcgnnaaTotals.lean).
  GIVEN WITH THE SEED: the statements are not yours to turn. If you find one false, say at which input.
  Laid BY PROGRAM, IN A SANDBOX (cutbox-rows.mjs): the forced cells as the released guide's own fill.sh prints them over the translation 849f21754ba42670… (all of the seat's roots in one cut). By AI agents, Wed Nov 11 2026. No macro, syntax, notation, axiom, sorry.
-/
import Derived.Test.YtfjeoefnpcgnnaaChecked
import GoSem.Claim
import GoSem.ClaimJoined
import GoSem.ClaimMapViews
import Derived.JoinedTies
import Derived.KernelRfl
namespace Go.Proofs.Ytfjeoefnpcgnnaa
/- THE CELL 'sum', in the pinned program and in every row, IS THE sha256 OF THE DUMP (.gsa) THAT YtfjeoefnpcgnnaaProg.lean LOADS. Nothing in Lean hashes anything: it is a label: what it is worth is what the hold of that sum in a sandbox is worth. -/
noncomputable def Try.pinned : Pinned := { name := "ytfjeoefnpcgnnaa", sum := "849f21754ba426708223f4e1a89ec7a2536f59433bfd66855f684e1d31877955", checked := Try.checked }
namespace Rows
def none {H : Type} : Left H := { results := [], args := [] }

/-- 'escapementlaw20.TurnPlans': WHATEVER THE INPUT: true; the input reads as it did. -/
def turnPlansSpec : ChangeSpec := { name := "turnPlans", fn := fun _ => fun
  | [d1, d2, d3] => { results := [.lit (.bool true)], args := [d1, d2, d3] }
  | _ => none }
def turnPlansRow : OpenClaim := { program := "ytfjeoefnpcgnnaa", sum := "849f21754ba426708223f4e1a89ec7a2536f59433bfd66855f684e1d31877955", func := "escapement/escapementlaw20.TurnPlans", spec := "turnPlans", unfollowed := true, recurses := true, apart := false }
def TurnPlansSaid : Prop := turnPlansRow.holds Try.pinned (OpenSpec.ofChange turnPlansSpec)

/-- ITS FALSE NEIGHBOUR: 'it returns false'. Refute it at one input. -/
def turnPlansWrong : ChangeSpec := { name := "turnPlans", fn := fun _ => fun
  | [d1, d2, d3] => { results := [.lit (.bool false)], args := [d1, d2, d3] }
  | _ => none }
def TurnPlansWrongFalsely : Prop := turnPlansRow.holds Try.pinned (OpenSpec.ofChange turnPlansWrong)

/-- 'escapementlaw20.TurnWho': WHATEVER THE INPUT: true; the input reads as it did. -/
def turnWhoSpec : ChangeSpec := { name := "turnWho", fn := fun _ => fun
  | [d] => { results := [.lit (.bool true)], args := [d] }
  | _ => none }
def turnWhoRow : OpenClaim := { program := "ytfjeoefnpcgnnaa", sum := "849f21754ba426708223f4e1a89ec7a2536f59433bfd66855f684e1d31877955", func := "escapement/escapementlaw20.TurnWho", spec := "turnWho", unfollowed := true, recurses := true, apart := false }
def TurnWhoSaid : Prop := turnWhoRow.holds Try.pinned (OpenSpec.ofChange turnWhoSpec)

/-- ITS FALSE NEIGHBOUR: 'it returns false'. Refute it at one input. -/
def turnWhoWrong : ChangeSpec := { name := "turnWho", fn := fun _ => fun
  | [d] => { results := [.lit (.bool false)], args := [d] }
  | _ => none }
def TurnWhoWrongFalsely : Prop := turnWhoRow.holds Try.pinned (OpenSpec.ofChange turnWhoWrong)

/-- 'escapementlaw20.TurnKeeps': WHATEVER THE INPUT: true; the input reads as it did. -/
def turnKeepsSpec : ChangeSpec := { name := "turnKeeps", fn := fun _ => fun
  | [d1, d2] => { results := [.lit (.bool true)], args := [d1, d2] }
  | _ => none }
def turnKeepsRow : OpenClaim := { program := "ytfjeoefnpcgnnaa", sum := "849f21754ba426708223f4e1a89ec7a2536f59433bfd66855f684e1d31877955", func := "escapement/escapementlaw20.TurnKeeps", spec := "turnKeeps", unfollowed := true, recurses := true, apart := false }
def TurnKeepsSaid : Prop := turnKeepsRow.holds Try.pinned (OpenSpec.ofChange turnKeepsSpec)

/-- ITS FALSE NEIGHBOUR: 'it returns false'. Refute it at one input. -/
def turnKeepsWrong : ChangeSpec := { name := "turnKeeps", fn := fun _ => fun
  | [d1, d2] => { results := [.lit (.bool false)], args := [d1, d2] }
  | _ => none }
def TurnKeepsWrongFalsely : Prop := turnKeepsRow.holds Try.pinned (OpenSpec.ofChange turnKeepsWrong)

/-- 'escapementlaw20.TurnApart': WHATEVER THE INPUT: true; the input reads as it did. -/
def turnApartSpec : ChangeSpec := { name := "turnApart", fn := fun _ => fun
  | [d1, d2] => { results := [.lit (.bool true)], args := [d1, d2] }
  | _ => none }
def turnApartRow : OpenClaim := { program := "ytfjeoefnpcgnnaa", sum := "849f21754ba426708223f4e1a89ec7a2536f59433bfd66855f684e1d31877955", func := "escapement/escapementlaw20.TurnApart", spec := "turnApart", unfollowed := true, recurses := true, apart := false }
def TurnApartSaid : Prop := turnApartRow.holds Try.pinned (OpenSpec.ofChange turnApartSpec)

/-- ITS FALSE NEIGHBOUR: 'it returns false'. Refute it at one input. -/
def turnApartWrong : ChangeSpec := { name := "turnApart", fn := fun _ => fun
  | [d1, d2] => { results := [.lit (.bool false)], args := [d1, d2] }
  | _ => none }
def TurnApartWrongFalsely : Prop := turnApartRow.holds Try.pinned (OpenSpec.ofChange turnApartWrong)

/-- 'escapementlaw20.TurnNames': WHATEVER THE INPUT: true; the input reads as it did. -/
def turnNamesSpec : ChangeSpec := { name := "turnNames", fn := fun _ => fun
  | [] => { results := [.lit (.bool true)], args := [] }
  | _ => none }
def turnNamesRow : OpenClaim := { program := "ytfjeoefnpcgnnaa", sum := "849f21754ba426708223f4e1a89ec7a2536f59433bfd66855f684e1d31877955", func := "escapement/escapementlaw20.TurnNames", spec := "turnNames", unfollowed := true, recurses := true, apart := false }
def TurnNamesSaid : Prop := turnNamesRow.holds Try.pinned (OpenSpec.ofChange turnNamesSpec)

/-- ITS FALSE NEIGHBOUR: 'it returns false'. Refute it at one input. -/
def turnNamesWrong : ChangeSpec := { name := "turnNames", fn := fun _ => fun
  | [] => { results := [.lit (.bool false)], args := [] }
  | _ => none }
def TurnNamesWrongFalsely : Prop := turnNamesRow.holds Try.pinned (OpenSpec.ofChange turnNamesWrong)

/- THE SECOND FORM. 'bulk': how many values and letters a reading holds, each counted each time it is reached (what is shared counts as often as it is met; a slice's spare places count too). A statement '..UptoSaid' is the law's where the arguments, and the package variables that the reading takes, are together of bulk at most 1048576: NARROWER than '..Said'. Prove '..Said' where nothing that the law and all that it calls make is longer than what came in: it says more and counts as full. Else prove '..UptoSaid'. A law counts once. -/
mutual
def uptoBulk {H : Type} : DataW H → Nat
  | .lit (.string bytes) => bytes.length + 1
  | .lit _ => 1
  | .nil => 1
  | .ptr d => uptoBulk d + 1
  | .slice elems spare => uptoBulkAll elems + uptoBulkAll spare + 1
  | .agg parts => uptoBulkAll parts + 1
  | .iface _ d => uptoBulk d + 1
  | .map entries => uptoBulkEntries entries + 1
  | .held _ => 1
def uptoBulkAll {H : Type} : List (DataW H) → Nat
  | [] => 0
  | d :: r => uptoBulk d + uptoBulkAll r
def uptoBulkEntries {H : Type} : List (Lit × DataW H) → Nat
  | [] => 0
  | x :: r => uptoBulkEntry x + uptoBulkEntries r
def uptoBulkEntry {H : Type} : Lit × DataW H → Nat
  | (.string bytes, d) => bytes.length + uptoBulk d + 1
  | (_, d) => uptoBulk d + 1
 end
def uptoSmall : (H : Type) → List (DataW H) → Bool := fun _ ds => decide (uptoBulkAll ds ≤ 1048576)
def OpenSpec.upto (s : _root_.Go.ChangeSpec) : _root_.Go.OpenSpec := { _root_.Go.OpenSpec.ofChange s with cond := some uptoSmall }

/-- 'escapementlaw20.TurnPlans', WHERE WHAT IT READS IS OF BULK AT MOST 1048576: true; the input reads as it did. -/
def turnPlansUptoRow : OpenClaim := { program := "ytfjeoefnpcgnnaa", sum := "849f21754ba426708223f4e1a89ec7a2536f59433bfd66855f684e1d31877955", func := "escapement/escapementlaw20.TurnPlans", spec := "turnPlans", unfollowed := true, recurses := true, apart := false, narrowed := true }
def TurnPlansUptoSaid : Prop := turnPlansUptoRow.holds Try.pinned (OpenSpec.upto turnPlansSpec)

/-- 'escapementlaw20.TurnWho', WHERE WHAT IT READS IS OF BULK AT MOST 1048576: true; the input reads as it did. -/
def turnWhoUptoRow : OpenClaim := { program := "ytfjeoefnpcgnnaa", sum := "849f21754ba426708223f4e1a89ec7a2536f59433bfd66855f684e1d31877955", func := "escapement/escapementlaw20.TurnWho", spec := "turnWho", unfollowed := true, recurses := true, apart := false, narrowed := true }
def TurnWhoUptoSaid : Prop := turnWhoUptoRow.holds Try.pinned (OpenSpec.upto turnWhoSpec)

/-- 'escapementlaw20.TurnKeeps', WHERE WHAT IT READS IS OF BULK AT MOST 1048576: true; the input reads as it did. -/
def turnKeepsUptoRow : OpenClaim := { program := "ytfjeoefnpcgnnaa", sum := "849f21754ba426708223f4e1a89ec7a2536f59433bfd66855f684e1d31877955", func := "escapement/escapementlaw20.TurnKeeps", spec := "turnKeeps", unfollowed := true, recurses := true, apart := false, narrowed := true }
def TurnKeepsUptoSaid : Prop := turnKeepsUptoRow.holds Try.pinned (OpenSpec.upto turnKeepsSpec)

/-- 'escapementlaw20.TurnApart', WHERE WHAT IT READS IS OF BULK AT MOST 1048576: true; the input reads as it did. -/
def turnApartUptoRow : OpenClaim := { program := "ytfjeoefnpcgnnaa", sum := "849f21754ba426708223f4e1a89ec7a2536f59433bfd66855f684e1d31877955", func := "escapement/escapementlaw20.TurnApart", spec := "turnApart", unfollowed := true, recurses := true, apart := false, narrowed := true }
def TurnApartUptoSaid : Prop := turnApartUptoRow.holds Try.pinned (OpenSpec.upto turnApartSpec)

/-- 'escapementlaw20.TurnNames', WHERE WHAT IT READS IS OF BULK AT MOST 1048576: true; the input reads as it did. -/
def turnNamesUptoRow : OpenClaim := { program := "ytfjeoefnpcgnnaa", sum := "849f21754ba426708223f4e1a89ec7a2536f59433bfd66855f684e1d31877955", func := "escapement/escapementlaw20.TurnNames", spec := "turnNames", unfollowed := true, recurses := true, apart := false, narrowed := true }
def TurnNamesUptoSaid : Prop := turnNamesUptoRow.holds Try.pinned (OpenSpec.upto turnNamesSpec)

end Rows
end Go.Proofs.Ytfjeoefnpcgnnaa
