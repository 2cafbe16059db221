/- Waits, the program's: the iterator over those that share, the sum over it. -/
import Derived.Test.YtlifkclgflfnlaaDelB
import Derived.RangeFuncNested
import Derived.RangeFuncBound
import Derived.RangeFuncCalls
import Derived.RangeFuncLeaves
import Derived.Shelf.Abstract
import Derived.Shelf.RegionOpen
import Derived.WalkKit
import Derived.OwnWalkIn
import Derived.TacticsInMore
import Derived.LoopNIn
import Derived.LoopIn
namespace Go.Proofs.Ytlifkclgflfnlaa
open Go.RowKit Go.Shelf Tk De Dl
set_option linter.unusedVariables false
attribute [local go_sem] Oper.semAt_some

/-- a partition that is handed to a round: its period is one that may be -/
structure Pv where
  per : Int
  bud : Int
  a : Option Addr
  n : Nat
  cap : Nat
  p1 : 1 ≤ per
  p2 : per ≤ 64
def Pv.enc (x : Pv) : Array Value := #[.agg #[.int .i64 x.per, .int .i64 x.bud, .slice x.a x.n x.cap]]
/-- what they add to a wait -/
def tw (l : List Pv) : Int := (l.map fun x => 2 * x.per).sum
theorem tw_snoc (l : List Pv) (x : Pv) : tw (l ++ [x]) = tw l + 2 * x.per := by simp [tw]
theorem tw_bd : ∀ l : List Pv, 0 ≤ tw l ∧ tw l ≤ 128 * l.length
  | [] => by simp [tw]
  | x :: r => by
    have h1 := tw_bd r
    have h2 := x.p1; have h3 := x.p2
    have : tw (x :: r) = 2 * x.per + tw r := rfl
    rw [this, List.length_cons]
    omega
theorem grown_of_below {A B : World} (h : Below A.heap.size A B) : A.grownBy B none := ⟨h.os, h.tape, h.output, h.size, fun k hk _ => h.block k hk⟩
/-- what a round keeps -/
def Kx (B Bo Bg : Nat) (W W' : World) : Prop := Below B W W' ∧ W'.heap[Bo]? = W.heap[Bo]? ∧ W'.heap[Bg]? = W.heap[Bg]?
theorem Kx.t {B Bo Bg : Nat} {X Y Z : World} (h : Kx B Bo Bg X Y) (k : Kx B Bo Bg Y Z) : Kx B Bo Bg X Z := ⟨h.1.trans k.1, k.2.1.trans h.2.1, k.2.2.trans h.2.2⟩
theorem Kx.b {B Bo Bg : Nat} {w : World} (hB : B ≤ w.heap.size) (h1 : Bo < w.heap.size) (h2 : Bg < w.heap.size) (W : World) (l : Nat) (o o' : Obj) (hl : w.heap.size ≤ l) (h : W.heap[l]? = some o) (hc : o.isCells = false) (hw : o.isWalk = false) : Kx B Bo Bg W (W.putObj l o') :=
  ⟨belowK_b hB W l o o' hl h hc hw, World.putObj_heap_other (by omega), World.putObj_heap_other (by omega)⟩
theorem Kx.below {B Bo Bg : Nat} {W W' : World} (h : Below W.heap.size W W') (hB : B ≤ W.heap.size) (h1 : Bo < W.heap.size) (h2 : Bg < W.heap.size) : Kx B Bo Bg W W' := ⟨h.mono hB, h.block _ h1, h.block _ h2⟩
theorem wt_skip {ps : List Pn} {q k : Nat} {g : Int} (h : k = q ∨ uses (ps.getD k p0) g = false) : wt ps q g (k + 1) = wt ps q g k := by
  have hn : ¬ (0 < g ∧ k ≠ q ∧ uses (ps.getD k p0) g = true) := fun hc => by
    rcases h with h | h
    · exact hc.2.1 h
    · rw [h] at hc; exact absurd hc.2.2 (by decide)
  rw [wt, add1, if_neg hn, Int.add_zero]
theorem wt_take {ps : List Pn} {q k : Nat} {g : Int} (hg : 0 < g) (h1 : k ≠ q) (h2 : uses (ps.getD k p0) g = true) : wt ps q g (k + 1) = wt ps q g k + 2 * (ps.getD k p0).per := by
  rw [wt, add1, if_pos ⟨hg, h1, h2⟩]

/-- a partition that is looked at, by value, and its box -/
abbrev lv (per bud : Int) (ta : Option Addr) (n tcap : Nat) (a : Option Addr) (m cap : Nat) (q : Int) : Value := .agg #[.int .i64 per, .int .i64 bud, .slice ta n tcap, .slice a m cap, .int .i64 q]
end Go.Proofs.Ytlifkclgflfnlaa
