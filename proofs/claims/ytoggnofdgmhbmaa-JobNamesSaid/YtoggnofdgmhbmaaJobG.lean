/- The program's job: what only reads. -/
import Derived.Test.YtoggnofdgmhbmaaJobC
import Derived.Test.YtoggnofdgmhbmaaActW
import Derived.Lib.QuietBelow
namespace Go.Proofs.Ytoggnofdgmhbmaa
open Go.RowKit Go.Sort Ac Jo
set_option linter.unusedVariables false

/-- the cells of the program's job -/
def pcl (s : Jb) (rb : Nat) : Array Value := #[.pointer (some ⟨rb, 0, none⟩), .int .i64 (s.t 0), .int .i64 (s.t 1), .int .i64 (s.t 2), .int .i64 (s.t 3), .int .i64 (s.t 4), .int .i64 (s.t 5), .int .i64 (s.t 6), .int .i64 (s.t 7), .int .i64 s.e, .bool s.b, .int .i64 s.n, .int .i64 s.c, .int .i64 s.k, .int .i64 s.x]
abbrev PJ (w : World) (jb rb g : Nat) (s : Jb) : Prop := JW 59 74 pcl w jb rb g s
abbrev PP (v : Value) (jb rb g : Nat) (s : Jb) (w : World) (e : Ending) (w' : World) : Prop := JP 59 74 pcl v jb rb g s w e w'
set_option maxRecDepth 100000 in
set_option maxHeartbeats 2000000 in
theorem told_cells {w : World} {jb : Nat} {p : Option Addr} {t0 t1 t2 t3 t4 t5 t6 t7 e n c k x : Int} {b : Bool} (h : w.heap[jb]? = some (.cells #[.pointer p, .int .i64 t0, .int .i64 t1, .int .i64 t2, .int .i64 t3, .int .i64 t4, .int .i64 t5, .int .i64 t6, .int .i64 t7, .int .i64 e, .bool b, .int .i64 n, .int .i64 c, .int .i64 k, .int .i64 x] 59 (0, 0))) :
    Calls Try.prog 34 #[.pointer (some ⟨jb, 0, none⟩)] w (VB (.agg #[.pointer p, .int .i64 t0, .int .i64 t1, .int .i64 t2, .int .i64 t3, .int .i64 t4, .int .i64 t5, .int .i64 t6, .int .i64 t7, .int .i64 e, .bool b, .int .i64 n, .int .i64 c, .int .i64 k, .int .i64 x]) w) := by
  have hz := ((below_al w (.cells #[.pointer none, .int .i64 0, .int .i64 0, .int .i64 0, .int .i64 0, .int .i64 0, .int .i64 0, .int .i64 0, .int .i64 0, .int .i64 0, .bool false, .int .i64 0, .int .i64 0, .int .i64 0, .int .i64 0] 59)).block jb (lt_of_block h)).trans h
  have h0 : (w.alloc (.cells #[.pointer none, .int .i64 0, .int .i64 0, .int .i64 0, .int .i64 0, .int .i64 0, .int .i64 0, .int .i64 0, .int .i64 0, .int .i64 0, .bool false, .int .i64 0, .int .i64 0, .int .i64 0, .int .i64 0] 59)).cell? ⟨jb, 0, none⟩ = some (.pointer p) := cell_of_row _ _ 0 _ _ _ hz
  have h1 : (w.alloc (.cells #[.pointer none, .int .i64 0, .int .i64 0, .int .i64 0, .int .i64 0, .int .i64 0, .int .i64 0, .int .i64 0, .int .i64 0, .int .i64 0, .bool false, .int .i64 0, .int .i64 0, .int .i64 0, .int .i64 0] 59)).cell? ⟨jb, 1, none⟩ = some (.int .i64 t0) := cell_of_row _ _ 1 _ _ _ hz
  have h2 : (w.alloc (.cells #[.pointer none, .int .i64 0, .int .i64 0, .int .i64 0, .int .i64 0, .int .i64 0, .int .i64 0, .int .i64 0, .int .i64 0, .int .i64 0, .bool false, .int .i64 0, .int .i64 0, .int .i64 0, .int .i64 0] 59)).cell? ⟨jb, 2, none⟩ = some (.int .i64 t1) := cell_of_row _ _ 2 _ _ _ hz
  have h3 : (w.alloc (.cells #[.pointer none, .int .i64 0, .int .i64 0, .int .i64 0, .int .i64 0, .int .i64 0, .int .i64 0, .int .i64 0, .int .i64 0, .int .i64 0, .bool false, .int .i64 0, .int .i64 0, .int .i64 0, .int .i64 0] 59)).cell? ⟨jb, 3, none⟩ = some (.int .i64 t2) := cell_of_row _ _ 3 _ _ _ hz
  have h4 : (w.alloc (.cells #[.pointer none, .int .i64 0, .int .i64 0, .int .i64 0, .int .i64 0, .int .i64 0, .int .i64 0, .int .i64 0, .int .i64 0, .int .i64 0, .bool false, .int .i64 0, .int .i64 0, .int .i64 0, .int .i64 0] 59)).cell? ⟨jb, 4, none⟩ = some (.int .i64 t3) := cell_of_row _ _ 4 _ _ _ hz
  have h5 : (w.alloc (.cells #[.pointer none, .int .i64 0, .int .i64 0, .int .i64 0, .int .i64 0, .int .i64 0, .int .i64 0, .int .i64 0, .int .i64 0, .int .i64 0, .bool false, .int .i64 0, .int .i64 0, .int .i64 0, .int .i64 0] 59)).cell? ⟨jb, 5, none⟩ = some (.int .i64 t4) := cell_of_row _ _ 5 _ _ _ hz
  have h6 : (w.alloc (.cells #[.pointer none, .int .i64 0, .int .i64 0, .int .i64 0, .int .i64 0, .int .i64 0, .int .i64 0, .int .i64 0, .int .i64 0, .int .i64 0, .bool false, .int .i64 0, .int .i64 0, .int .i64 0, .int .i64 0] 59)).cell? ⟨jb, 6, none⟩ = some (.int .i64 t5) := cell_of_row _ _ 6 _ _ _ hz
  have h7 : (w.alloc (.cells #[.pointer none, .int .i64 0, .int .i64 0, .int .i64 0, .int .i64 0, .int .i64 0, .int .i64 0, .int .i64 0, .int .i64 0, .int .i64 0, .bool false, .int .i64 0, .int .i64 0, .int .i64 0, .int .i64 0] 59)).cell? ⟨jb, 7, none⟩ = some (.int .i64 t6) := cell_of_row _ _ 7 _ _ _ hz
  have h8 : (w.alloc (.cells #[.pointer none, .int .i64 0, .int .i64 0, .int .i64 0, .int .i64 0, .int .i64 0, .int .i64 0, .int .i64 0, .int .i64 0, .int .i64 0, .bool false, .int .i64 0, .int .i64 0, .int .i64 0, .int .i64 0] 59)).cell? ⟨jb, 8, none⟩ = some (.int .i64 t7) := cell_of_row _ _ 8 _ _ _ hz
  have h9 : (w.alloc (.cells #[.pointer none, .int .i64 0, .int .i64 0, .int .i64 0, .int .i64 0, .int .i64 0, .int .i64 0, .int .i64 0, .int .i64 0, .int .i64 0, .bool false, .int .i64 0, .int .i64 0, .int .i64 0, .int .i64 0] 59)).cell? ⟨jb, 9, none⟩ = some (.int .i64 e) := cell_of_row _ _ 9 _ _ _ hz
  have h10 : (w.alloc (.cells #[.pointer none, .int .i64 0, .int .i64 0, .int .i64 0, .int .i64 0, .int .i64 0, .int .i64 0, .int .i64 0, .int .i64 0, .int .i64 0, .bool false, .int .i64 0, .int .i64 0, .int .i64 0, .int .i64 0] 59)).cell? ⟨jb, 10, none⟩ = some (.bool b) := cell_of_row _ _ 10 _ _ _ hz
  have h11 : (w.alloc (.cells #[.pointer none, .int .i64 0, .int .i64 0, .int .i64 0, .int .i64 0, .int .i64 0, .int .i64 0, .int .i64 0, .int .i64 0, .int .i64 0, .bool false, .int .i64 0, .int .i64 0, .int .i64 0, .int .i64 0] 59)).cell? ⟨jb, 11, none⟩ = some (.int .i64 n) := cell_of_row _ _ 11 _ _ _ hz
  have h12 : (w.alloc (.cells #[.pointer none, .int .i64 0, .int .i64 0, .int .i64 0, .int .i64 0, .int .i64 0, .int .i64 0, .int .i64 0, .int .i64 0, .int .i64 0, .bool false, .int .i64 0, .int .i64 0, .int .i64 0, .int .i64 0] 59)).cell? ⟨jb, 12, none⟩ = some (.int .i64 c) := cell_of_row _ _ 12 _ _ _ hz
  have h13 : (w.alloc (.cells #[.pointer none, .int .i64 0, .int .i64 0, .int .i64 0, .int .i64 0, .int .i64 0, .int .i64 0, .int .i64 0, .int .i64 0, .int .i64 0, .bool false, .int .i64 0, .int .i64 0, .int .i64 0, .int .i64 0] 59)).cell? ⟨jb, 13, none⟩ = some (.int .i64 k) := cell_of_row _ _ 13 _ _ _ hz
  have h14 : (w.alloc (.cells #[.pointer none, .int .i64 0, .int .i64 0, .int .i64 0, .int .i64 0, .int .i64 0, .int .i64 0, .int .i64 0, .int .i64 0, .int .i64 0, .bool false, .int .i64 0, .int .i64 0, .int .i64 0, .int .i64 0] 59)).cell? ⟨jb, 14, none⟩ = some (.int .i64 x) := cell_of_row _ _ 14 _ _ _ hz
  clear h hz
  go_enter Try.func34, Try.ntmps34
  go_wp2_with fail
  go_returns
  exact ⟨rfl, below_al w _⟩
set_option maxRecDepth 100000 in
theorem told_nil (w : World) : Calls Try.prog 34 #[.pointer none] w (VB (.agg #[.pointer none, .int .i64 0, .int .i64 0, .int .i64 0, .int .i64 0, .int .i64 0, .int .i64 0, .int .i64 0, .int .i64 0, .int .i64 0, .bool false, .int .i64 0, .int .i64 0, .int .i64 0, .int .i64 0]) w) := by
  go_enter Try.func34, Try.ntmps34
  go_wp2_with fail
  go_returns
  exact ⟨rfl, below_al w _⟩
theorem qf0 (p : Option Addr) (t0 t1 t2 t3 t4 t5 t6 t7 e n c k x : Int) (b : Bool) (w : World) : (Instr.field 59 (.agg #[.pointer p, .int .i64 t0, .int .i64 t1, .int .i64 t2, .int .i64 t3, .int .i64 t4, .int .i64 t5, .int .i64 t6, .int .i64 t7, .int .i64 e, .bool b, .int .i64 n, .int .i64 c, .int .i64 k, .int .i64 x]) 0).run Try.prog w = .ok (.pointer p) w := by kernel_rfl
theorem qf2 (p : Option Addr) (t0 t1 t2 t3 t4 t5 t6 t7 e n c k x : Int) (b : Bool) (w : World) : (Instr.field 59 (.agg #[.pointer p, .int .i64 t0, .int .i64 t1, .int .i64 t2, .int .i64 t3, .int .i64 t4, .int .i64 t5, .int .i64 t6, .int .i64 t7, .int .i64 e, .bool b, .int .i64 n, .int .i64 c, .int .i64 k, .int .i64 x]) 2).run Try.prog w = .ok (.int .i64 e) w := by kernel_rfl
theorem qf3 (p : Option Addr) (t0 t1 t2 t3 t4 t5 t6 t7 e n c k x : Int) (b : Bool) (w : World) : (Instr.field 59 (.agg #[.pointer p, .int .i64 t0, .int .i64 t1, .int .i64 t2, .int .i64 t3, .int .i64 t4, .int .i64 t5, .int .i64 t6, .int .i64 t7, .int .i64 e, .bool b, .int .i64 n, .int .i64 c, .int .i64 k, .int .i64 x]) 3).run Try.prog w = .ok (.bool b) w := by kernel_rfl
theorem qf4 (p : Option Addr) (t0 t1 t2 t3 t4 t5 t6 t7 e n c k x : Int) (b : Bool) (w : World) : (Instr.field 59 (.agg #[.pointer p, .int .i64 t0, .int .i64 t1, .int .i64 t2, .int .i64 t3, .int .i64 t4, .int .i64 t5, .int .i64 t6, .int .i64 t7, .int .i64 e, .bool b, .int .i64 n, .int .i64 c, .int .i64 k, .int .i64 x]) 4).run Try.prog w = .ok (.int .i64 n) w := by kernel_rfl
theorem qf5 (p : Option Addr) (t0 t1 t2 t3 t4 t5 t6 t7 e n c k x : Int) (b : Bool) (w : World) : (Instr.field 59 (.agg #[.pointer p, .int .i64 t0, .int .i64 t1, .int .i64 t2, .int .i64 t3, .int .i64 t4, .int .i64 t5, .int .i64 t6, .int .i64 t7, .int .i64 e, .bool b, .int .i64 n, .int .i64 c, .int .i64 k, .int .i64 x]) 5).run Try.prog w = .ok (.int .i64 c) w := by kernel_rfl
theorem qf7 (p : Option Addr) (t0 t1 t2 t3 t4 t5 t6 t7 e n c k x : Int) (b : Bool) (w : World) : (Instr.field 59 (.agg #[.pointer p, .int .i64 t0, .int .i64 t1, .int .i64 t2, .int .i64 t3, .int .i64 t4, .int .i64 t5, .int .i64 t6, .int .i64 t7, .int .i64 e, .bool b, .int .i64 n, .int .i64 c, .int .i64 k, .int .i64 x]) 7).run Try.prog w = .ok (.int .i64 x) w := by kernel_rfl
section
variable {w : World} {v : Value} {p : Option Addr} {t0 t1 t2 t3 t4 t5 t6 t7 e n c k x : Int} {b : Bool}
theorem is_some {a : Addr} (h : Calls Try.prog 34 #[v] w (VB (.agg #[.pointer (some a), .int .i64 t0, .int .i64 t1, .int .i64 t2, .int .i64 t3, .int .i64 t4, .int .i64 t5, .int .i64 t6, .int .i64 t7, .int .i64 e, .bool b, .int .i64 n, .int .i64 c, .int .i64 k, .int .i64 x]) w)) : Calls Try.prog 42 #[v] w (VB (.bool false) w) := by
  have H := Lib.hid h
  clear h
  have qfd := qf0 (some a) t0 t1 t2 t3 t4 t5 t6 t7 e n c k x b
  go_enter Try.func42, Try.ntmps42
  go_wp2_with fail
  refine H.out.mono ?_
  rintro e w1 ⟨rfl, hb⟩
  have HB := Lib.hid hb
  clear hb
  go_wp2_with fail
  go_ret
  exact ⟨rfl, HB.out⟩
theorem is_none (h : Calls Try.prog 34 #[v] w (VB (.agg #[.pointer none, .int .i64 t0, .int .i64 t1, .int .i64 t2, .int .i64 t3, .int .i64 t4, .int .i64 t5, .int .i64 t6, .int .i64 t7, .int .i64 e, .bool b, .int .i64 n, .int .i64 c, .int .i64 k, .int .i64 x]) w)) : Calls Try.prog 42 #[v] w (VB (.bool true) w) := by
  have H := Lib.hid h
  clear h
  have qfd := qf0 (none) t0 t1 t2 t3 t4 t5 t6 t7 e n c k x b
  go_enter Try.func42, Try.ntmps42
  go_wp2_with fail
  refine H.out.mono ?_
  rintro e w1 ⟨rfl, hb⟩
  have HB := Lib.hid hb
  clear hb
  go_wp2_with fail
  go_ret
  exact ⟨rfl, HB.out⟩
theorem dead_of (h : Calls Try.prog 34 #[v] w (VB (.agg #[.pointer p, .int .i64 t0, .int .i64 t1, .int .i64 t2, .int .i64 t3, .int .i64 t4, .int .i64 t5, .int .i64 t6, .int .i64 t7, .int .i64 e, .bool b, .int .i64 n, .int .i64 c, .int .i64 k, .int .i64 x]) w)) : Calls Try.prog 27 #[v] w (VB (.int .i64 e) w) := by
  have H := Lib.hid h
  clear h
  have qfd := qf2 (p) t0 t1 t2 t3 t4 t5 t6 t7 e n c k x b
  go_enter Try.func27, Try.ntmps27
  go_wp2_with fail
  refine H.out.mono ?_
  rintro e' w1 ⟨rfl, hb⟩
  have HB := Lib.hid hb
  clear hb
  go_wp2_with fail
  go_ret
  exact ⟨rfl, HB.out⟩
theorem jran_of (h : Calls Try.prog 34 #[v] w (VB (.agg #[.pointer p, .int .i64 t0, .int .i64 t1, .int .i64 t2, .int .i64 t3, .int .i64 t4, .int .i64 t5, .int .i64 t6, .int .i64 t7, .int .i64 e, .bool b, .int .i64 n, .int .i64 c, .int .i64 k, .int .i64 x]) w)) : Calls Try.prog 21 #[v] w (VB (.int .i64 n) w) := by
  have H := Lib.hid h
  clear h
  have qfd := qf4 (p) t0 t1 t2 t3 t4 t5 t6 t7 e n c k x b
  go_enter Try.func21, Try.ntmps21
  go_wp2_with fail
  refine H.out.mono ?_
  rintro e' w1 ⟨rfl, hb⟩
  have HB := Lib.hid hb
  clear hb
  go_wp2_with fail
  go_ret
  exact ⟨rfl, HB.out⟩
theorem takes_of (h : Calls Try.prog 34 #[v] w (VB (.agg #[.pointer p, .int .i64 t0, .int .i64 t1, .int .i64 t2, .int .i64 t3, .int .i64 t4, .int .i64 t5, .int .i64 t6, .int .i64 t7, .int .i64 e, .bool b, .int .i64 n, .int .i64 c, .int .i64 k, .int .i64 x]) w)) : Calls Try.prog 22 #[v] w (VB (.int .i64 x) w) := by
  have H := Lib.hid h
  clear h
  have qfd := qf7 (p) t0 t1 t2 t3 t4 t5 t6 t7 e n c k x b
  go_enter Try.func22, Try.ntmps22
  go_wp2_with fail
  refine H.out.mono ?_
  rintro e' w1 ⟨rfl, hb⟩
  have HB := Lib.hid hb
  clear hb
  go_wp2_with fail
  go_ret
  exact ⟨rfl, HB.out⟩
theorem begun_of (h : Calls Try.prog 34 #[v] w (VB (.agg #[.pointer p, .int .i64 t0, .int .i64 t1, .int .i64 t2, .int .i64 t3, .int .i64 t4, .int .i64 t5, .int .i64 t6, .int .i64 t7, .int .i64 e, .bool b, .int .i64 n, .int .i64 c, .int .i64 k, .int .i64 x]) w)) : Calls Try.prog 25 #[v] w (VB (.bool b) w) := by
  have H := Lib.hid h
  clear h
  have qfd := qf3 (p) t0 t1 t2 t3 t4 t5 t6 t7 e n c k x b
  go_enter Try.func25, Try.ntmps25
  go_wp2_with fail
  refine H.out.mono ?_
  rintro e' w1 ⟨rfl, hb⟩
  have HB := Lib.hid hb
  clear hb
  go_wp2_with fail
  go_ret
  exact ⟨rfl, HB.out⟩
set_option maxRecDepth 100000 in
theorem into_of (h : Calls Try.prog 34 #[v] w (VB (.agg #[.pointer p, .int .i64 t0, .int .i64 t1, .int .i64 t2, .int .i64 t3, .int .i64 t4, .int .i64 t5, .int .i64 t6, .int .i64 t7, .int .i64 e, .bool b, .int .i64 n, .int .i64 c, .int .i64 k, .int .i64 x]) w)) : Calls Try.prog 20 #[v] w (VB (.tuple #[.int .i64 c, .int .i64 k]) w) := by
  have H := Lib.hid h
  clear h
  go_enter Try.func20, Try.ntmps20
  go_wp2_with fail
  refine H.out.mono ?_
  rintro e' w1 ⟨rfl, hb⟩
  have HB := Lib.hid (hb.alloc hb.size (.cells #[.pointer p, .int .i64 t0, .int .i64 t1, .int .i64 t2, .int .i64 t3, .int .i64 t4, .int .i64 t5, .int .i64 t6, .int .i64 t7, .int .i64 e, .bool b, .int .i64 n, .int .i64 c, .int .i64 k, .int .i64 x] 59))
  have a1 : (w1.alloc (.cells #[.pointer p, .int .i64 t0, .int .i64 t1, .int .i64 t2, .int .i64 t3, .int .i64 t4, .int .i64 t5, .int .i64 t6, .int .i64 t7, .int .i64 e, .bool b, .int .i64 n, .int .i64 c, .int .i64 k, .int .i64 x] 59)).cell? ⟨w1.heap.size, 12, none⟩ = some (.int .i64 c) := cell_of_row _ _ 12 _ _ _ (heap_alloc_new w1 _)
  have a2 : (w1.alloc (.cells #[.pointer p, .int .i64 t0, .int .i64 t1, .int .i64 t2, .int .i64 t3, .int .i64 t4, .int .i64 t5, .int .i64 t6, .int .i64 t7, .int .i64 e, .bool b, .int .i64 n, .int .i64 c, .int .i64 k, .int .i64 x] 59)).cell? ⟨w1.heap.size, 13, none⟩ = some (.int .i64 k) := cell_of_row _ _ 13 _ _ _ (heap_alloc_new w1 _)
  clear hb
  go_wp2_with fail
  go_quiet (fail)
  go_wp2_with fail
  go_ret2
  exact ⟨rfl, below_drewN HB.out _⟩
set_option maxHeartbeats 1000000 in
theorem jnext_of {q l : Int} {s : ByteArray} {i : Bool} (h : Calls Try.prog 34 #[v] (w.alloc (.cells #[.int .i64 0, .int .i64 0, .string ⟨#[]⟩] 49)) (VB (.agg #[.pointer p, .int .i64 t0, .int .i64 t1, .int .i64 t2, .int .i64 t3, .int .i64 t4, .int .i64 t5, .int .i64 t6, .int .i64 t7, .int .i64 e, .bool b, .int .i64 n, .int .i64 c, .int .i64 k, .int .i64 x]) (w.alloc (.cells #[.int .i64 0, .int .i64 0, .string ⟨#[]⟩] 49))))
    (hn : ∀ w', Below w.heap.size w w' → Calls Try.prog 46 #[.pointer p] w' (VB (.tuple #[.agg #[.int .i64 q, .int .i64 l, .string s], .bool i]) w')) :
    Calls Try.prog 26 #[v] w (VB (.tuple #[.agg #[.int .i64 q, .int .i64 l, .string s], .bool i]) w) := by
  have H := Lib.hid h
  have HN := Lib.hid hn
  have HV := Lib.hid (AB.new w 0 0 ⟨#[]⟩)
  clear h hn
  have qfd := qf0 (p) t0 t1 t2 t3 t4 t5 t6 t7 e n c k x b
  go_enter Try.func26, Try.ntmps26
  go_wp2_with fail
  refine H.out.mono ?_
  rintro e' w1 ⟨rfl, hb⟩
  have HB := Lib.hid ((below_al w _).trans (hb.mono (by simp)))
  have HV1 := Lib.hid (HV.out.below hb)
  clear hb H HV
  go_wp2_with fail
  refine (HN.out _ HB.out).mono ?_
  rintro e' w2 ⟨rfl, hb⟩
  have hv := HV1.out.below hb
  obtain ⟨v0, v1, v2⟩ := hv.cells
  obtain ⟨f0, f1, f2⟩ := hv.free
  obtain ⟨e0, e1, e2⟩ := (hv.set q l s).cells
  have HB2 : Hid (Below w.heap.size w (((w2.setCell ⟨w.heap.size, 0, none⟩ (.int .i64 q)).setCell ⟨w.heap.size, 1, none⟩ (.int .i64 l)).setCell ⟨w.heap.size, 2, none⟩ (.string s))) :=
    (((HB.out.trans (hb.mono HB.out.size)).setCell (p := ⟨w.heap.size, 0, none⟩) (Nat.le_refl _) _).setCell (p := ⟨w.heap.size, 1, none⟩) (Nat.le_refl _) _).setCell (p := ⟨w.heap.size, 2, none⟩) (Nat.le_refl _) _
  clear hb hv HN HV1 HB
  go_wp2_with fail
  refine bodyPost_ret (v := .tuple #[.agg #[.int .i64 q, .int .i64 l, .string s], .bool i]) (by simp [results, Try.results26, go_sem, e0, e1, e2]) rfl ?_
  exact ⟨rfl, HB2.out⟩
theorem jdone_of {i : Bool} (h : Calls Try.prog 34 #[v] w (VB (.agg #[.pointer p, .int .i64 t0, .int .i64 t1, .int .i64 t2, .int .i64 t3, .int .i64 t4, .int .i64 t5, .int .i64 t6, .int .i64 t7, .int .i64 e, .bool b, .int .i64 n, .int .i64 c, .int .i64 k, .int .i64 x]) w)) (hn : ∀ w', Below w.heap.size w w' → Calls Try.prog 43 #[.pointer p] w' (IsB i w')) :
    Calls Try.prog 23 #[v] w (VB (.bool i) w) := by
  have H := Lib.hid h
  have HN := Lib.hid hn
  clear h hn
  have qfd := qf0 (p) t0 t1 t2 t3 t4 t5 t6 t7 e n c k x b
  go_enter Try.func23, Try.ntmps23
  go_wp2_with fail
  refine H.out.mono ?_
  rintro e' w1 ⟨rfl, hb⟩
  have HB := Lib.hid hb
  clear hb H
  go_wp2_with fail
  refine (HN.out _ HB.out).mono ?_
  rintro e' w2 ⟨rfl, rfl⟩
  go_wp2_with fail
  go_ret
  exact ⟨rfl, HB.out⟩
end
section
variable {w : World} {jb rb g : Nat} {s : Jb}
theorem pj_told (h : PJ w jb rb g s) : Calls Try.prog 34 #[.pointer (some ⟨jb, 0, none⟩)] w (VB (.agg (pcl s rb)) w) := told_cells h.ob
theorem pj_is (h : PJ w jb rb g s) : Calls Try.prog 42 #[.pointer (some ⟨jb, 0, none⟩)] w (VB (.bool false) w) := is_some (pj_told h)
theorem pj_dead (h : PJ w jb rb g s) : Calls Try.prog 27 #[.pointer (some ⟨jb, 0, none⟩)] w (VB (.int .i64 s.e) w) := dead_of (pj_told h)
theorem pj_ran (h : PJ w jb rb g s) : Calls Try.prog 21 #[.pointer (some ⟨jb, 0, none⟩)] w (VB (.int .i64 s.n) w) := jran_of (pj_told h)
theorem pj_takes (h : PJ w jb rb g s) : Calls Try.prog 22 #[.pointer (some ⟨jb, 0, none⟩)] w (VB (.int .i64 s.x) w) := takes_of (pj_told h)
theorem pj_begun (h : PJ w jb rb g s) : Calls Try.prog 25 #[.pointer (some ⟨jb, 0, none⟩)] w (VB (.bool s.b) w) := begun_of (pj_told h)
theorem pj_into (h : PJ w jb rb g s) : Calls Try.prog 20 #[.pointer (some ⟨jb, 0, none⟩)] w (VB (.tuple #[.int .i64 s.c, .int .i64 s.k]) w) := into_of (pj_told h)
theorem pj_next (h : PJ w jb rb g s) : Calls Try.prog 26 #[.pointer (some ⟨jb, 0, none⟩)] w (VB (nv s.l) w) :=
  jnext_of (pj_told (h.below (below_al w _))) (fun w' hb => next_any (h.below hb).rw)
theorem pj_done (h : PJ w jb rb g s) : Calls Try.prog 23 #[.pointer (some ⟨jb, 0, none⟩)] w (VB (.bool s.l.isEmpty) w) := jdone_of (pj_told h) (fun w' hb => done_any (h.below hb).rw)
end
end Go.Proofs.Ytoggnofdgmhbmaa
