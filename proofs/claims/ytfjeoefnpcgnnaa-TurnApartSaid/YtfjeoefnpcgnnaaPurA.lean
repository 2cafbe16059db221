/- The program's purse in memory; what its parts answer. -/
import Derived.Test.YtfjeoefnpcgnnaaPurR
import Derived.Test.YtfjeoefnpcgnnaaWalksB
import Derived.Laws.StructEq
import Derived.Lib.QuietBelow
import Derived.Deep.RegionWith
import Derived.Handy
namespace Go.Proofs.Ytfjeoefnpcgnnaa.Pw
open Go.RowKit Pu
set_option linter.unusedVariables false
set_option maxRecDepth 100000

theorem below_al (w : World) (o : Obj) : Below w.heap.size w (w.alloc o) := (Below.refl _ _).alloc (Nat.le_refl _) o
/-- a value is answered; what was there is as it was -/
def VB (v : Value) (w : World) (e : Ending) (w' : World) : Prop := e = .returned v ∧ Below w.heap.size w w'
/-- a purse's cells -/
def RP (w : World) (b : Nat) (p q : Int) (x : Option Addr) (n e s : Int) (o : Bool) : Prop := w.heap[b]? = some (.cells #[.int .i64 p, .int .i64 q, .pointer x, .int .i64 n, .int .i64 e, .int .i64 s, .bool o] 63 (0, 0))
/-- terms in a block -/
def RT (w : World) (b : Nat) (p q : Int) : Prop := w.heap[b]? = some (.cells #[.int .i64 p, .int .i64 q] 60 (0, 0))
section
variable {w w' : World} {b : Nat} {p q n e s : Int} {x : Option Addr} {o : Bool}
theorem RP.c0 (h : RP w b p q x n e s o) : w.cell? ⟨b, 0, none⟩ = some (.int .i64 p) := cell_of_row _ _ 0 _ _ _ h
theorem RP.f0 (h : RP w b p q x n e s o) : w.frozen? ⟨b, 0, none⟩ = false := frozen_of_row _ _ 0 _ _ h
theorem RP.set0 (h : RP w b p q x n e s o) (z : Int) : RP (w.setCell ⟨b, 0, none⟩ (.int .i64 z)) b z q x n e s o := heap_setCell_same w b 0 _ _ _ h
theorem RP.c1 (h : RP w b p q x n e s o) : w.cell? ⟨b, 1, none⟩ = some (.int .i64 q) := cell_of_row _ _ 1 _ _ _ h
theorem RP.f1 (h : RP w b p q x n e s o) : w.frozen? ⟨b, 1, none⟩ = false := frozen_of_row _ _ 1 _ _ h
theorem RP.set1 (h : RP w b p q x n e s o) (z : Int) : RP (w.setCell ⟨b, 1, none⟩ (.int .i64 z)) b p z x n e s o := heap_setCell_same w b 1 _ _ _ h
theorem RP.c2 (h : RP w b p q x n e s o) : w.cell? ⟨b, 2, none⟩ = some (.pointer x) := cell_of_row _ _ 2 _ _ _ h
theorem RP.f2 (h : RP w b p q x n e s o) : w.frozen? ⟨b, 2, none⟩ = false := frozen_of_row _ _ 2 _ _ h
theorem RP.set2 (h : RP w b p q x n e s o) (z : Option Addr) : RP (w.setCell ⟨b, 2, none⟩ (.pointer z)) b p q z n e s o := heap_setCell_same w b 2 _ _ _ h
theorem RP.c3 (h : RP w b p q x n e s o) : w.cell? ⟨b, 3, none⟩ = some (.int .i64 n) := cell_of_row _ _ 3 _ _ _ h
theorem RP.f3 (h : RP w b p q x n e s o) : w.frozen? ⟨b, 3, none⟩ = false := frozen_of_row _ _ 3 _ _ h
theorem RP.set3 (h : RP w b p q x n e s o) (z : Int) : RP (w.setCell ⟨b, 3, none⟩ (.int .i64 z)) b p q x z e s o := heap_setCell_same w b 3 _ _ _ h
theorem RP.c4 (h : RP w b p q x n e s o) : w.cell? ⟨b, 4, none⟩ = some (.int .i64 e) := cell_of_row _ _ 4 _ _ _ h
theorem RP.f4 (h : RP w b p q x n e s o) : w.frozen? ⟨b, 4, none⟩ = false := frozen_of_row _ _ 4 _ _ h
theorem RP.set4 (h : RP w b p q x n e s o) (z : Int) : RP (w.setCell ⟨b, 4, none⟩ (.int .i64 z)) b p q x n z s o := heap_setCell_same w b 4 _ _ _ h
theorem RP.c5 (h : RP w b p q x n e s o) : w.cell? ⟨b, 5, none⟩ = some (.int .i64 s) := cell_of_row _ _ 5 _ _ _ h
theorem RP.f5 (h : RP w b p q x n e s o) : w.frozen? ⟨b, 5, none⟩ = false := frozen_of_row _ _ 5 _ _ h
theorem RP.set5 (h : RP w b p q x n e s o) (z : Int) : RP (w.setCell ⟨b, 5, none⟩ (.int .i64 z)) b p q x n e z o := heap_setCell_same w b 5 _ _ _ h
theorem RP.c6 (h : RP w b p q x n e s o) : w.cell? ⟨b, 6, none⟩ = some (.bool o) := cell_of_row _ _ 6 _ _ _ h
theorem RP.f6 (h : RP w b p q x n e s o) : w.frozen? ⟨b, 6, none⟩ = false := frozen_of_row _ _ 6 _ _ h
theorem RP.set6 (h : RP w b p q x n e s o) (z : Bool) : RP (w.setCell ⟨b, 6, none⟩ (.bool z)) b p q x n e s z := heap_setCell_same w b 6 _ _ _ h
theorem RP.lt (h : RP w b p q x n e s o) : b < w.heap.size := lt_of_block h
theorem RP.drew (h : RP w b p q x n e s o) : RP w.drew b p q x n e s o := h
theorem RP.below (h : RP w b p q x n e s o) (k : Below w.heap.size w w') : RP w' b p q x n e s o := (k.block b h.lt).trans h
theorem RP.alloc (h : RP w b p q x n e s o) (o' : Obj) : RP (w.alloc o') b p q x n e s o := h.below (below_al _ _)
theorem RT.c0 (h : RT w b p q) : w.cell? ⟨b, 0, none⟩ = some (.int .i64 p) := cell_of_row _ _ 0 _ _ _ h
theorem RT.c1 (h : RT w b p q) : w.cell? ⟨b, 1, none⟩ = some (.int .i64 q) := cell_of_row _ _ 1 _ _ _ h
theorem RT.lt (h : RT w b p q) : b < w.heap.size := lt_of_block h
theorem RT.below (h : RT w b p q) (k : Below w.heap.size w w') : RT w' b p q := (k.block b h.lt).trans h
theorem RT.new (w : World) (p q : Int) : RT (w.alloc (.cells #[.int .i64 p, .int .i64 q] 60)) w.heap.size p q := heap_alloc_new w _
theorem RT.ne {c : Nat} {p' q' : Int} (h : RP w b p q x n e s o) (k : RT w c p' q') : c ≠ b := by
  rintro rfl; have := h.symm.trans k; simp at this
end
set_option maxHeartbeats 2000000 in
theorem told_cells {w : World} {b : Nat} {p q n e s : Int} {x : Option Addr} {o : Bool} (h : RP w b p q x n e s o) : Calls Try.prog 45 #[.pointer (some ⟨b, 0, none⟩)] w (VB (.agg #[.int .i64 p, .int .i64 q, .pointer x, .int .i64 n, .int .i64 e, .int .i64 s, .bool o]) w) := by
  have hz := h.alloc (.cells #[.int .i64 0, .int .i64 0, .pointer none, .int .i64 0, .int .i64 0, .int .i64 0, .bool false] 63)
  have h0 := hz.c0
  have h1 := hz.c1
  have h2 := hz.c2
  have h3 := hz.c3
  have h4 := hz.c4
  have h5 := hz.c5
  have h6 := hz.c6
  clear h hz
  go_enter Try.func45, Try.ntmps45
  go_wp2_with fail
  go_returns
  exact ⟨rfl, below_al w _⟩
theorem told_nil (w : World) : Calls Try.prog 45 #[.pointer none] w (VB (.agg #[.int .i64 0, .int .i64 0, .pointer none, .int .i64 0, .int .i64 0, .int .i64 0, .bool false]) w) := by
  go_enter Try.func45, Try.ntmps45
  go_wp2_with fail
  go_returns
  exact ⟨rfl, below_al w _⟩
theorem qf0 (p q n e s : Int) (x : Option Addr) (o : Bool) (w : World) : (Instr.field 63 (.agg #[.int .i64 p, .int .i64 q, .pointer x, .int .i64 n, .int .i64 e, .int .i64 s, .bool o]) 0).run Try.prog w = .ok (.agg #[.int .i64 p, .int .i64 q]) w := by kernel_rfl
theorem qf1 (p q n e s : Int) (x : Option Addr) (o : Bool) (w : World) : (Instr.field 63 (.agg #[.int .i64 p, .int .i64 q, .pointer x, .int .i64 n, .int .i64 e, .int .i64 s, .bool o]) 1).run Try.prog w = .ok (.pointer x) w := by kernel_rfl
theorem qf2 (p q n e s : Int) (x : Option Addr) (o : Bool) (w : World) : (Instr.field 63 (.agg #[.int .i64 p, .int .i64 q, .pointer x, .int .i64 n, .int .i64 e, .int .i64 s, .bool o]) 2).run Try.prog w = .ok (.int .i64 n) w := by kernel_rfl
theorem qf3 (p q n e s : Int) (x : Option Addr) (o : Bool) (w : World) : (Instr.field 63 (.agg #[.int .i64 p, .int .i64 q, .pointer x, .int .i64 n, .int .i64 e, .int .i64 s, .bool o]) 3).run Try.prog w = .ok (.int .i64 e) w := by kernel_rfl
theorem qf4 (p q n e s : Int) (x : Option Addr) (o : Bool) (w : World) : (Instr.field 63 (.agg #[.int .i64 p, .int .i64 q, .pointer x, .int .i64 n, .int .i64 e, .int .i64 s, .bool o]) 4).run Try.prog w = .ok (.int .i64 s) w := by kernel_rfl
theorem qf5 (p q n e s : Int) (x : Option Addr) (o : Bool) (w : World) : (Instr.field 63 (.agg #[.int .i64 p, .int .i64 q, .pointer x, .int .i64 n, .int .i64 e, .int .i64 s, .bool o]) 5).run Try.prog w = .ok (.bool o) w := by kernel_rfl
section
variable {w : World} {v : Value} {p q n e s : Int} {x : Option Addr} {o : Bool}
theorem left_of (h : Calls Try.prog 45 #[v] w (VB (.agg #[.int .i64 p, .int .i64 q, .pointer x, .int .i64 n, .int .i64 e, .int .i64 s, .bool o]) w)) : Calls Try.prog 48 #[v] w (VB (.int .i64 n) w) := by
  have H := Lib.hid h
  clear h
  have qfd := qf2 p q n e s x o
  go_enter Try.func48, Try.ntmps48
  go_wp2_with fail
  refine H.out.mono ?_
  rintro e' w1 ⟨rfl, hb⟩
  have HB := Lib.hid hb
  clear hb
  go_wp2_with fail
  go_ret
  exact ⟨rfl, HB.out⟩
theorem ends_of (h : Calls Try.prog 45 #[v] w (VB (.agg #[.int .i64 p, .int .i64 q, .pointer x, .int .i64 n, .int .i64 e, .int .i64 s, .bool o]) w)) : Calls Try.prog 50 #[v] w (VB (.int .i64 e) w) := by
  have H := Lib.hid h
  clear h
  have qfd := qf3 p q n e s x o
  go_enter Try.func50, Try.ntmps50
  go_wp2_with fail
  refine H.out.mono ?_
  rintro e' w1 ⟨rfl, hb⟩
  have HB := Lib.hid hb
  clear hb
  go_wp2_with fail
  go_ret
  exact ⟨rfl, HB.out⟩
theorem waits_some {a : Addr} (h : Calls Try.prog 45 #[v] w (VB (.agg #[.int .i64 p, .int .i64 q, .pointer (some a), .int .i64 n, .int .i64 e, .int .i64 s, .bool o]) w)) : Calls Try.prog 55 #[v] w (VB (.bool true) w) := by
  have H := Lib.hid h
  clear h
  have qfd := qf1 p q n e s (some a) o
  go_enter Try.func55, Try.ntmps55
  go_wp2_with fail
  refine H.out.mono ?_
  rintro e' w1 ⟨rfl, hb⟩
  have HB := Lib.hid hb
  clear hb
  go_wp2_with fail
  go_ret
  exact ⟨rfl, HB.out⟩
theorem waits_none (h : Calls Try.prog 45 #[v] w (VB (.agg #[.int .i64 p, .int .i64 q, .pointer none, .int .i64 n, .int .i64 e, .int .i64 s, .bool o]) w)) : Calls Try.prog 55 #[v] w (VB (.bool false) w) := by
  have H := Lib.hid h
  clear h
  have qfd := qf1 p q n e s none o
  go_enter Try.func55, Try.ntmps55
  go_wp2_with fail
  refine H.out.mono ?_
  rintro e' w1 ⟨rfl, hb⟩
  have HB := Lib.hid hb
  clear hb
  go_wp2_with fail
  go_ret
  exact ⟨rfl, HB.out⟩
/-- a purse that is none -/
theorem wrong_nil (h : Calls Try.prog 45 #[v] w (VB (.agg #[.int .i64 0, .int .i64 0, .pointer x, .int .i64 n, .int .i64 e, .int .i64 s, .bool o]) w)) : Calls Try.prog 34 #[v] w (VB (.int .i64 1) w) := by
  have H := Lib.hid h
  clear h
  have qfd := qf0 0 0 n e s x o
  go_enter Try.func34, Try.ntmps34
  go_wp2_with fail
  refine H.out.mono ?_
  rintro e' w1 ⟨rfl, hb⟩
  have HB := Lib.hid hb
  clear hb
  go_wp2_with fail
  go_ret
  exact ⟨rfl, HB.out⟩
end
section
variable {w : World} {b : Nat} {p q n e s : Int} {x : Option Addr} {o : Bool}
theorem wrong_any (h : RP w b p q x n e s o) (h1 : 1 ≤ p) : Calls Try.prog 34 #[.pointer (some ⟨b, 0, none⟩)] w (VB (.int .i64 (if o = true then 250 else 0)) w) := by
  have H := Lib.hid (told_cells h)
  have HR := Lib.hid h
  clear h
  have qfd := qf0 p q n e s x o
  have hp : (p == 0) = false := by simp; omega
  cases o
  all_goals
    go_enter Try.func34, Try.ntmps34
    go_wp2_with fail
    refine H.out.mono ?_
    rintro e' w1 ⟨rfl, hb⟩
    have HB := Lib.hid hb
    have c6 := (HR.out.below hb).c6
    clear hb
    go_wp2_with fail
    go_ret
    exact ⟨rfl, HB.out⟩
end
theorem may_any (p q : Int) (w : World) : Calls Try.prog 31 #[.agg #[.int .i64 p, .int .i64 q]] w (VB (.bool (decide (may p q))) w) := by
  have H := RT.new w p q
  have c0 := H.c0
  have c1 := H.c1
  clear H
  have HB := Lib.hid (below_al w (.cells #[.int .i64 p, .int .i64 q] 60))
  by_cases h1 : 1 ≤ q
  · have d1 : decide (1 ≤ q) = true := by simpa using h1
    by_cases h2 : q ≤ p
    · have d2 : decide (q ≤ p) = true := by simpa using h2
      by_cases h3 : p ≤ 64
      · have d3 : decide (p ≤ 64) = true := by simpa using h3
        rw [decide_eq_true (show may p q by unfold may; omega)]
        go_enter Try.func31, Try.ntmps31
        go_wp2_with fail
        go_ret
        exact ⟨rfl, HB.out⟩
      · have d3 : decide (p ≤ 64) = false := by simp; omega
        rw [decide_eq_false (show ¬ may p q by unfold may; omega)]
        go_enter Try.func31, Try.ntmps31
        go_wp2_with fail
        go_ret
        exact ⟨rfl, HB.out⟩
    · have d2 : decide (q ≤ p) = false := by simp; omega
      rw [decide_eq_false (show ¬ may p q by unfold may; omega)]
      go_enter Try.func31, Try.ntmps31
      go_wp2_with fail
      go_ret
      exact ⟨rfl, HB.out⟩
  · have d1 : decide (1 ≤ q) = false := by simp; omega
    rw [decide_eq_false (show ¬ may p q by unfold may; omega)]
    go_enter Try.func31, Try.ntmps31
    go_wp2_with fail
    go_ret
    exact ⟨rfl, HB.out⟩
end Go.Proofs.Ytfjeoefnpcgnnaa.Pw
