/- The contracts of the document's answers for layer 1 (escapementref01) and of the small helpers: each computes what Plain says and leaves the world. -/
import Derived.Test.YtfjeoefnpcgnnaaRows
import Derived.Test.YtfjeoefnpcgnnaaPlain
import Derived.WalkKit
import Derived.WalkSpells
import Derived.WalkLawsBesides
import Derived.Lib.Hide
import Derived.Deep.QuietTactic
import Derived.BigQuiet
namespace Go.Proofs.Ytfjeoefnpcgnnaa
open Go.RowKit Tk
set_option linter.unusedVariables false

/-- a call that answers two numbers and leaves the world -/
def Two (n m : Int) (w : World) (e : Ending) (w' : World) : Prop := e = .returned (.tuple #[.int .i64 n, .int .i64 m]) ∧ w = w'
/-- a call that answers two numbers; what was there is as it was -/
def TwoB (n m : Int) (w : World) (e : Ending) (w' : World) : Prop := e = .returned (.tuple #[.int .i64 n, .int .i64 m]) ∧ Below w.heap.size w w'
def IsB (b : Bool) (w : World) (e : Ending) (w' : World) : Prop := e = .returned (.bool b) ∧ w = w'
def IsN (n : Int) (w : World) (e : Ending) (w' : World) : Prop := e = .returned (.int .i64 n) ∧ w = w'

set_option maxHeartbeats 400000 in
theorem bring_pos (n m : Int) (w : World) (h : 0 ≤ n) (hm : 1 ≤ m) (hm' : m ≤ 4611686018427387904) : Calls Try.prog 15 #[.int .i64 n, .int .i64 m] w (IsN (n % m) w) := by
  have h0 : (m == 0) = false := by simp; omega
  have h1 : 0 ≤ n % m := Int.emod_nonneg _ (by omega)
  have h2 : n % m < m := Int.emod_lt_of_pos _ (by omega)
  go_enter Try.func15, Try.ntmps15
  go_wp2
  go_ret
  exact ⟨rfl, rfl⟩
theorem tmod_neg (n m : Int) (h : n < 0) (hm : 1 ≤ m) : n.tmod m = - ((-n) % m) := by
  rw [show n = -(-n) from by omega, Int.neg_tmod, Int.tmod_eq_emod_of_nonneg (by omega)]; simp
theorem emod_neg (n m : Int) (hm : 1 ≤ m) : n % m = if (-n) % m = 0 then 0 else m - (-n) % m := by
  have a1 := Int.emod_nonneg (-n) (by omega : m ≠ 0)
  have a2 := Int.emod_lt_of_pos (-n) (by omega : 0 < m)
  have e := Int.mul_ediv_add_emod (-n) m
  split
  · rename_i hz
    rw [hz] at e
    have : n = m * (-((-n) / m)) := by rw [Int.mul_neg]; omega
    rw [this]; exact Int.mul_emod_right _ _
  · have : n = (m - (-n) % m) + m * (-((-n) / m) - 1) := by rw [Int.mul_sub, Int.mul_neg]; omega
    conv => lhs; rw [this]
    rw [Int.add_mul_emod_self_left]
    exact Int.emod_eq_of_lt (by omega) (by omega)
set_option maxHeartbeats 400000 in
theorem bring_neg (n m : Int) (w : World) (h : n < 0) (hl : -9223372036854775808 ≤ n) (hm : 1 ≤ m) (hm' : m ≤ 4611686018427387904) : Calls Try.prog 15 #[.int .i64 n, .int .i64 m] w (IsN (n % m) w) := by
  have h0 : (m == 0) = false := by simp; omega
  have h1 : 0 ≤ (-n) % m := Int.emod_nonneg _ (by omega)
  have h2 : (-n) % m < m := Int.emod_lt_of_pos _ (by omega)
  have ht := tmod_neg n m h hm
  have hem := emod_neg n m hm
  generalize (-n) % m = r at *
  rw [hem]
  generalize hq : n.tmod m = q at *
  by_cases hz : r = 0
  · rw [if_pos hz]
    obtain rfl : q = 0 := by omega
    clear ht hem hz
    go_enter Try.func15, Try.ntmps15
    go_wp2
    go_ret
    exact ⟨rfl, rfl⟩
  · rw [if_neg hz]
    obtain rfl : r = -q := by omega
    have hq0 : q < 0 := by omega
    have hw : q + m ≤ 4611686018427387904 := by omega
    have he : m - -q = q + m := by omega
    rw [he]
    clear ht hem hz he
    go_enter Try.func15, Try.ntmps15
    go_wp2
    go_ret
    exact ⟨rfl, rfl⟩
theorem bring_any (n m : Int) (w : World) (hl : -9223372036854775808 ≤ n) (hm : 1 ≤ m) (hm' : m ≤ 4611686018427387904) : Calls Try.prog 15 #[.int .i64 n, .int .i64 m] w (IsN (n % m) w) := by
  by_cases h : 0 ≤ n
  · exact bring_pos n m w h hm hm'
  · exact bring_neg n m w (by omega) hl hm hm'


end Go.Proofs.Ytfjeoefnpcgnnaa
