/- What is more, the delay by a task, the delay of so many ticks: the program's. -/
import Derived.Test.YtlifkclgflfnlaaDelC
import Derived.Lib.QuietBelow
import Derived.IntWalk
namespace Go.Proofs.Ytlifkclgflfnlaa
open Go.RowKit Tk De Dl Go.Sort
set_option linter.unusedVariables false

theorem tb_b6 {bd : Int} {t : Nat → Int} (h : TB bd t) (hg : 0 < t 5) : t 6 ≤ 64 := by
  have h0 := h.n0 hg
  have htk := tOK_iff.1 h.ok
  have : t 6 * 1 ≤ t 6 * t 7 := Int.mul_le_mul_of_nonneg_left h0.2.2.1 (by omega)
  omega
/-- partitions, one of which is looked at, as a value -/
structure LK (w : World) (ps : List Pn) (a : Option Addr) (m cap q : Nat) (ta : Option Addr) (tcap : Nat) : Prop where
  p : PS w (.slice a m cap) ps
  ok : chkP ps = true
  lt : q < m
  t : TK w (.slice ta (ps.getD q p0).n tcap) (ps.getD q p0).n (ps.getD q p0).z
  l1 : (ps.getD q p0).n ≤ tcap
  l2 : tcap ≤ maxLen
theorem LK.below {w w' : World} {ps : List Pn} {a : Option Addr} {m cap q : Nat} {ta : Option Addr} {tcap : Nat} (h : LK w ps a m cap q ta tcap) (b : Below w.heap.size w w') : LK w' ps a m cap q ta tcap :=
  ⟨h.p.below b, h.ok, h.lt, h.t.below b, h.l1, h.l2⟩
theorem LK.tb {w : World} {ps : List Pn} {a : Option Addr} {m cap q : Nat} {ta : Option Addr} {tcap : Nat} (h : LK w ps a m cap q ta tcap) : PB (ps.getD q p0) := chkP_at h.ok (by have := h.p.len; have := h.lt; omega)
/-- the value that is looked at -/
abbrev lkv (ps : List Pn) (a : Option Addr) (m cap q : Nat) (ta : Option Addr) (tcap : Nat) : Value := lv (ps.getD q p0).per (ps.getD q p0).bud ta (ps.getD q p0).n tcap a m cap q
end Go.Proofs.Ytlifkclgflfnlaa
