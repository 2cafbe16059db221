/- A job's object in memory, over its row: whatever its type and its cells are. -/
import Derived.Test.YtkkmfpllgjoceaaGreatZa
import Derived.Test.YtkkmfpllgjoceaaGreatJobP
import Derived.Lib.QuietBelow
namespace Go.Proofs.YtkkmfpllgjoceaaGreat
open Go.RowKit Ac Jo
set_option linter.unusedVariables false
set_option maxRecDepth 100000

def Tri (a b c : Nat) (k : Nat) : Prop := k = a ∨ k = b ∨ k = c
/-- a job's object at block jb: its cells are told by cf, its row stands at rb, its acts in block g -/
structure JW (T TR : TypeId) (cf : Jb → Nat → Array Value) (w : World) (jb rb g : Nat) (s : Jb) : Prop where
  ob : w.heap[jb]? = some (.cells (cf s rb) T (0, 0))
  rw : RW TR w rb g s.l
  gl : g < w.heap.size
  n1 : jb ≠ rb
  n2 : jb ≠ g
section
variable {T TR : TypeId} {cf : Jb → Nat → Array Value} {w w' : World} {jb rb g : Nat} {s s' : Jb}
theorem JW.lt (h : JW T TR cf w jb rb g s) : jb < w.heap.size := lt_of_block h.ob
theorem JW.cell (h : JW T TR cf w jb rb g s) (i : Nat) : w.cell? ⟨jb, i, none⟩ = (cf s rb)[i]? := cell_of_row _ _ i _ _ _ h.ob
theorem JW.free (h : JW T TR cf w jb rb g s) (i : Nat) : w.frozen? ⟨jb, i, none⟩ = false := frozen_of_row _ _ i _ _ h.ob
theorem JW.below (h : JW T TR cf w jb rb g s) (q : Below w.heap.size w w') : JW T TR cf w' jb rb g s := ⟨(q.block jb h.lt).trans h.ob, h.rw.below q, Nat.lt_of_lt_of_le h.gl q.size, h.n1, h.n2⟩
theorem JW.only {S : Nat → Prop} (h : JW T TR cf w jb rb g s) (q : Only S w w') (h1 : ¬ S jb) (h2 : ¬ S rb) (h3 : ¬ S g) : JW T TR cf w' jb rb g s := ⟨(q.block jb h.lt h1).trans h.ob, h.rw.only q h2 h3, Nat.lt_of_lt_of_le h.gl q.size, h.n1, h.n2⟩
/-- the row has gone on -/
theorem JW.row (h : JW T TR cf w jb rb g s) (hr : RW TR w' rb g s'.l) (o : Only (Two rb g) w w') (hc : cf s' rb = cf s rb) : JW T TR cf w' jb rb g s' ∧ Only (Tri jb rb g) w w' :=
  ⟨⟨by rw [hc]; exact (o.block jb h.lt (by rintro (e | e); exact h.n1 e; exact h.n2 e)).trans h.ob, hr, Nat.lt_of_lt_of_le h.gl o.size, h.n1, h.n2⟩,
    ⟨o.os, o.tape, o.output, o.size, fun k hk hS => o.block k hk (fun t => hS (by rcases t with e | e; exact Or.inr (Or.inl e); exact Or.inr (Or.inr e)))⟩⟩
/-- a cell of its own is written -/
theorem JW.set (h : JW T TR cf w jb rb g s) (i : Nat) (v : Value) (hc : (cf s rb).setIfInBounds i v = cf s' rb) (hl : s'.l = s.l) : JW T TR cf (w.setCell ⟨jb, i, none⟩ v) jb rb g s' ∧ Only (Tri jb rb g) w (w.setCell ⟨jb, i, none⟩ v) := by
  have hs := heap_setCell_same w jb i _ _ v h.ob
  rw [hc] at hs
  refine ⟨⟨hs, ?_, by simpa [World.setCell] using h.gl, h.n1, h.n2⟩, Only.set w i v (Or.inl rfl)⟩
  rw [hl]
  exact h.rw.keep (Below.heap_setCell _ _ _ _ (fun e => h.n1 e.symm)) (fun _ => Below.heap_setCell _ _ _ _ (fun e => h.n2 e.symm))
theorem tri_below {a b : World} (h : Below a.heap.size a b) : Only (Tri jb rb g) a b := Only.of_below h
end
theorem JW.drewN {T TR : TypeId} {cf : Jb → Nat → Array Value} {w : World} {jb rb g : Nat} {s : Jb} (h : JW T TR cf w jb rb g s) (k : Nat) : JW T TR cf (w.drewN k) jb rb g s := ⟨h.ob, h.rw, h.gl, h.n1, h.n2⟩
theorem Only.drewN {S : Nat → Prop} {a b : World} (h : Only S a b) (k : Nat) : Only S a (b.drewN k) := ⟨h.os, h.tape, h.output, h.size, h.block⟩
/-- a call of a job: an answer; the job behind it -/
def JP (T TR : TypeId) (cf : Jb → Nat → Array Value) (v : Value) (jb rb g : Nat) (s : Jb) (w : World) (e : Ending) (w' : World) : Prop := e = .returned v ∧ JW T TR cf w' jb rb g s ∧ Only (Tri jb rb g) w w'
end Go.Proofs.YtkkmfpllgjoceaaGreat

namespace Go.Proofs.YtkkmfpllgjoceaaGreat
open Go.RowKit Go.Sort Ac Jo
set_option linter.unusedVariables false
set_option maxRecDepth 100000

/-- a task, by value -/
abbrev tv (t : Nat → Int) : Value := .agg #[.int .i64 (t 0), .int .i64 (t 1), .int .i64 (t 2), .int .i64 (t 3), .int .i64 (t 4), .int .i64 (t 5), .int .i64 (t 6), .int .i64 (t 7)]
abbrev tcs (t : Nat → Int) : Array Value := #[.int .i64 (t 0), .int .i64 (t 1), .int .i64 (t 2), .int .i64 (t 3), .int .i64 (t 4), .int .i64 (t 5), .int .i64 (t 6), .int .i64 (t 7)]
/-- a task in a block -/
def TB1 (w : World) (g : Nat) (t : Nat → Int) : Prop := w.heap[g]? = some (.cells (tcs t) 55 (0, 0))
theorem TB1.below {w w' : World} {g : Nat} {t : Nat → Int} (h : TB1 w g t) (q : Below w.heap.size w w') : TB1 w' g t := (q.block g (lt_of_block h)).trans h
def YB (b : Bool) (w : World) (e : Ending) (w' : World) : Prop := e = .returned (.bool b) ∧ Below w.heap.size w w'
end Go.Proofs.YtkkmfpllgjoceaaGreat
