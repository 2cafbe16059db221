/- The program's job: what only reads. -/
import Derived.Test.YtkkmfpllgjoceaaGreatZj
import Derived.Test.YtkkmfpllgjoceaaGreatZb
import Derived.Lib.QuietBelow
namespace Go.Proofs.YtkkmfpllgjoceaaGreat
open Go.RowKit Go.Sort Ac Jo
set_option linter.unusedVariables false
set_option maxRecDepth 100000

/-- the cells of the program's job -/
def pcl (s : Jb) (rb : Nat) : Array Value := #[.pointer (some ⟨rb, 0, none⟩), .int .i64 (s.t 0), .int .i64 (s.t 1), .int .i64 (s.t 2), .int .i64 (s.t 3), .int .i64 (s.t 4), .int .i64 (s.t 5), .int .i64 (s.t 6), .int .i64 (s.t 7), .int .i64 s.e, .bool s.b, .int .i64 s.n, .int .i64 s.c, .int .i64 s.k, .int .i64 s.x]
abbrev PJ (w : World) (jb rb g : Nat) (s : Jb) : Prop := JW 149 201 pcl w jb rb g s
abbrev PP (v : Value) (jb rb g : Nat) (s : Jb) (w : World) (e : Ending) (w' : World) : Prop := JP 149 201 pcl v jb rb g s w e w'
set_option maxRecDepth 100000 in
set_option maxHeartbeats 2000000 in
theorem told_cells {w : World} {jb : Nat} {p : Option Addr} {t0 t1 t2 t3 t4 t5 t6 t7 e n c k x : Int} {b : Bool} (h : w.heap[jb]? = some (.cells #[.pointer p, .int .i64 t0, .int .i64 t1, .int .i64 t2, .int .i64 t3, .int .i64 t4, .int .i64 t5, .int .i64 t6, .int .i64 t7, .int .i64 e, .bool b, .int .i64 n, .int .i64 c, .int .i64 k, .int .i64 x] 149 (0, 0))) :
    Calls Tryz.prog 122 #[.pointer (some ⟨jb, 0, none⟩)] w (VB (.agg #[.pointer p, .int .i64 t0, .int .i64 t1, .int .i64 t2, .int .i64 t3, .int .i64 t4, .int .i64 t5, .int .i64 t6, .int .i64 t7, .int .i64 e, .bool b, .int .i64 n, .int .i64 c, .int .i64 k, .int .i64 x]) w) := by
  have hz := ((below_al w (.cells #[.pointer none, .int .i64 0, .int .i64 0, .int .i64 0, .int .i64 0, .int .i64 0, .int .i64 0, .int .i64 0, .int .i64 0, .int .i64 0, .bool false, .int .i64 0, .int .i64 0, .int .i64 0, .int .i64 0] 149)).block jb (lt_of_block h)).trans h
  have h0 : (w.alloc (.cells #[.pointer none, .int .i64 0, .int .i64 0, .int .i64 0, .int .i64 0, .int .i64 0, .int .i64 0, .int .i64 0, .int .i64 0, .int .i64 0, .bool false, .int .i64 0, .int .i64 0, .int .i64 0, .int .i64 0] 149)).cell? ⟨jb, 0, none⟩ = some (.pointer p) := cell_of_row _ _ 0 _ _ _ hz
  have h1 : (w.alloc (.cells #[.pointer none, .int .i64 0, .int .i64 0, .int .i64 0, .int .i64 0, .int .i64 0, .int .i64 0, .int .i64 0, .int .i64 0, .int .i64 0, .bool false, .int .i64 0, .int .i64 0, .int .i64 0, .int .i64 0] 149)).cell? ⟨jb, 1, none⟩ = some (.int .i64 t0) := cell_of_row _ _ 1 _ _ _ hz
  have h2 : (w.alloc (.cells #[.pointer none, .int .i64 0, .int .i64 0, .int .i64 0, .int .i64 0, .int .i64 0, .int .i64 0, .int .i64 0, .int .i64 0, .int .i64 0, .bool false, .int .i64 0, .int .i64 0, .int .i64 0, .int .i64 0] 149)).cell? ⟨jb, 2, none⟩ = some (.int .i64 t1) := cell_of_row _ _ 2 _ _ _ hz
  have h3 : (w.alloc (.cells #[.pointer none, .int .i64 0, .int .i64 0, .int .i64 0, .int .i64 0, .int .i64 0, .int .i64 0, .int .i64 0, .int .i64 0, .int .i64 0, .bool false, .int .i64 0, .int .i64 0, .int .i64 0, .int .i64 0] 149)).cell? ⟨jb, 3, none⟩ = some (.int .i64 t2) := cell_of_row _ _ 3 _ _ _ hz
  have h4 : (w.alloc (.cells #[.pointer none, .int .i64 0, .int .i64 0, .int .i64 0, .int .i64 0, .int .i64 0, .int .i64 0, .int .i64 0, .int .i64 0, .int .i64 0, .bool false, .int .i64 0, .int .i64 0, .int .i64 0, .int .i64 0] 149)).cell? ⟨jb, 4, none⟩ = some (.int .i64 t3) := cell_of_row _ _ 4 _ _ _ hz
  have h5 : (w.alloc (.cells #[.pointer none, .int .i64 0, .int .i64 0, .int .i64 0, .int .i64 0, .int .i64 0, .int .i64 0, .int .i64 0, .int .i64 0, .int .i64 0, .bool false, .int .i64 0, .int .i64 0, .int .i64 0, .int .i64 0] 149)).cell? ⟨jb, 5, none⟩ = some (.int .i64 t4) := cell_of_row _ _ 5 _ _ _ hz
  have h6 : (w.alloc (.cells #[.pointer none, .int .i64 0, .int .i64 0, .int .i64 0, .int .i64 0, .int .i64 0, .int .i64 0, .int .i64 0, .int .i64 0, .int .i64 0, .bool false, .int .i64 0, .int .i64 0, .int .i64 0, .int .i64 0] 149)).cell? ⟨jb, 6, none⟩ = some (.int .i64 t5) := cell_of_row _ _ 6 _ _ _ hz
  have h7 : (w.alloc (.cells #[.pointer none, .int .i64 0, .int .i64 0, .int .i64 0, .int .i64 0, .int .i64 0, .int .i64 0, .int .i64 0, .int .i64 0, .int .i64 0, .bool false, .int .i64 0, .int .i64 0, .int .i64 0, .int .i64 0] 149)).cell? ⟨jb, 7, none⟩ = some (.int .i64 t6) := cell_of_row _ _ 7 _ _ _ hz
  have h8 : (w.alloc (.cells #[.pointer none, .int .i64 0, .int .i64 0, .int .i64 0, .int .i64 0, .int .i64 0, .int .i64 0, .int .i64 0, .int .i64 0, .int .i64 0, .bool false, .int .i64 0, .int .i64 0, .int .i64 0, .int .i64 0] 149)).cell? ⟨jb, 8, none⟩ = some (.int .i64 t7) := cell_of_row _ _ 8 _ _ _ hz
  have h9 : (w.alloc (.cells #[.pointer none, .int .i64 0, .int .i64 0, .int .i64 0, .int .i64 0, .int .i64 0, .int .i64 0, .int .i64 0, .int .i64 0, .int .i64 0, .bool false, .int .i64 0, .int .i64 0, .int .i64 0, .int .i64 0] 149)).cell? ⟨jb, 9, none⟩ = some (.int .i64 e) := cell_of_row _ _ 9 _ _ _ hz
  have h10 : (w.alloc (.cells #[.pointer none, .int .i64 0, .int .i64 0, .int .i64 0, .int .i64 0, .int .i64 0, .int .i64 0, .int .i64 0, .int .i64 0, .int .i64 0, .bool false, .int .i64 0, .int .i64 0, .int .i64 0, .int .i64 0] 149)).cell? ⟨jb, 10, none⟩ = some (.bool b) := cell_of_row _ _ 10 _ _ _ hz
  have h11 : (w.alloc (.cells #[.pointer none, .int .i64 0, .int .i64 0, .int .i64 0, .int .i64 0, .int .i64 0, .int .i64 0, .int .i64 0, .int .i64 0, .int .i64 0, .bool false, .int .i64 0, .int .i64 0, .int .i64 0, .int .i64 0] 149)).cell? ⟨jb, 11, none⟩ = some (.int .i64 n) := cell_of_row _ _ 11 _ _ _ hz
  have h12 : (w.alloc (.cells #[.pointer none, .int .i64 0, .int .i64 0, .int .i64 0, .int .i64 0, .int .i64 0, .int .i64 0, .int .i64 0, .int .i64 0, .int .i64 0, .bool false, .int .i64 0, .int .i64 0, .int .i64 0, .int .i64 0] 149)).cell? ⟨jb, 12, none⟩ = some (.int .i64 c) := cell_of_row _ _ 12 _ _ _ hz
  have h13 : (w.alloc (.cells #[.pointer none, .int .i64 0, .int .i64 0, .int .i64 0, .int .i64 0, .int .i64 0, .int .i64 0, .int .i64 0, .int .i64 0, .int .i64 0, .bool false, .int .i64 0, .int .i64 0, .int .i64 0, .int .i64 0] 149)).cell? ⟨jb, 13, none⟩ = some (.int .i64 k) := cell_of_row _ _ 13 _ _ _ hz
  have h14 : (w.alloc (.cells #[.pointer none, .int .i64 0, .int .i64 0, .int .i64 0, .int .i64 0, .int .i64 0, .int .i64 0, .int .i64 0, .int .i64 0, .int .i64 0, .bool false, .int .i64 0, .int .i64 0, .int .i64 0, .int .i64 0] 149)).cell? ⟨jb, 14, none⟩ = some (.int .i64 x) := cell_of_row _ _ 14 _ _ _ hz
  clear h hz
  go_enter Tryz.func122, Tryz.ntmps122
  go_wp2_with fail
  go_returns
  exact ⟨rfl, below_al w _⟩
set_option maxRecDepth 100000 in
theorem told_nil (w : World) : Calls Tryz.prog 122 #[.pointer none] w (VB (.agg #[.pointer none, .int .i64 0, .int .i64 0, .int .i64 0, .int .i64 0, .int .i64 0, .int .i64 0, .int .i64 0, .int .i64 0, .int .i64 0, .bool false, .int .i64 0, .int .i64 0, .int .i64 0, .int .i64 0]) w) := by
  go_enter Tryz.func122, Tryz.ntmps122
  go_wp2_with fail
  go_returns
  exact ⟨rfl, below_al w _⟩
theorem qf0 (p : Option Addr) (t0 t1 t2 t3 t4 t5 t6 t7 e n c k x : Int) (b : Bool) (w : World) : (Instr.field 149 (.agg #[.pointer p, .int .i64 t0, .int .i64 t1, .int .i64 t2, .int .i64 t3, .int .i64 t4, .int .i64 t5, .int .i64 t6, .int .i64 t7, .int .i64 e, .bool b, .int .i64 n, .int .i64 c, .int .i64 k, .int .i64 x]) 0).run Tryz.prog w = .ok (.pointer p) w := by kernel_rfl
theorem qf2 (p : Option Addr) (t0 t1 t2 t3 t4 t5 t6 t7 e n c k x : Int) (b : Bool) (w : World) : (Instr.field 149 (.agg #[.pointer p, .int .i64 t0, .int .i64 t1, .int .i64 t2, .int .i64 t3, .int .i64 t4, .int .i64 t5, .int .i64 t6, .int .i64 t7, .int .i64 e, .bool b, .int .i64 n, .int .i64 c, .int .i64 k, .int .i64 x]) 2).run Tryz.prog w = .ok (.int .i64 e) w := by kernel_rfl
theorem qf3 (p : Option Addr) (t0 t1 t2 t3 t4 t5 t6 t7 e n c k x : Int) (b : Bool) (w : World) : (Instr.field 149 (.agg #[.pointer p, .int .i64 t0, .int .i64 t1, .int .i64 t2, .int .i64 t3, .int .i64 t4, .int .i64 t5, .int .i64 t6, .int .i64 t7, .int .i64 e, .bool b, .int .i64 n, .int .i64 c, .int .i64 k, .int .i64 x]) 3).run Tryz.prog w = .ok (.bool b) w := by kernel_rfl
theorem qf4 (p : Option Addr) (t0 t1 t2 t3 t4 t5 t6 t7 e n c k x : Int) (b : Bool) (w : World) : (Instr.field 149 (.agg #[.pointer p, .int .i64 t0, .int .i64 t1, .int .i64 t2, .int .i64 t3, .int .i64 t4, .int .i64 t5, .int .i64 t6, .int .i64 t7, .int .i64 e, .bool b, .int .i64 n, .int .i64 c, .int .i64 k, .int .i64 x]) 4).run Tryz.prog w = .ok (.int .i64 n) w := by kernel_rfl
theorem qf5 (p : Option Addr) (t0 t1 t2 t3 t4 t5 t6 t7 e n c k x : Int) (b : Bool) (w : World) : (Instr.field 149 (.agg #[.pointer p, .int .i64 t0, .int .i64 t1, .int .i64 t2, .int .i64 t3, .int .i64 t4, .int .i64 t5, .int .i64 t6, .int .i64 t7, .int .i64 e, .bool b, .int .i64 n, .int .i64 c, .int .i64 k, .int .i64 x]) 5).run Tryz.prog w = .ok (.int .i64 c) w := by kernel_rfl
theorem qf7 (p : Option Addr) (t0 t1 t2 t3 t4 t5 t6 t7 e n c k x : Int) (b : Bool) (w : World) : (Instr.field 149 (.agg #[.pointer p, .int .i64 t0, .int .i64 t1, .int .i64 t2, .int .i64 t3, .int .i64 t4, .int .i64 t5, .int .i64 t6, .int .i64 t7, .int .i64 e, .bool b, .int .i64 n, .int .i64 c, .int .i64 k, .int .i64 x]) 7).run Tryz.prog w = .ok (.int .i64 x) w := by kernel_rfl
section
variable {w : World} {v : Value} {p : Option Addr} {t0 t1 t2 t3 t4 t5 t6 t7 e n c k x : Int} {b : Bool}
theorem is_some {a : Addr} (h : Calls Tryz.prog 122 #[v] w (VB (.agg #[.pointer (some a), .int .i64 t0, .int .i64 t1, .int .i64 t2, .int .i64 t3, .int .i64 t4, .int .i64 t5, .int .i64 t6, .int .i64 t7, .int .i64 e, .bool b, .int .i64 n, .int .i64 c, .int .i64 k, .int .i64 x]) w)) : Calls Tryz.prog 187 #[v] w (VB (.bool false) w) := by
  have H := Lib.hid h
  clear h
  have qfd := qf0 (some a) t0 t1 t2 t3 t4 t5 t6 t7 e n c k x b
  go_enter Tryz.func187, Tryz.ntmps187
  go_wp2_with fail
  refine H.out.mono ?_
  rintro e w1 ⟨rfl, hb⟩
  have HB := Lib.hid hb
  clear hb
  go_wp2_with fail
  go_ret
  exact ⟨rfl, HB.out⟩
theorem is_none (h : Calls Tryz.prog 122 #[v] w (VB (.agg #[.pointer none, .int .i64 t0, .int .i64 t1, .int .i64 t2, .int .i64 t3, .int .i64 t4, .int .i64 t5, .int .i64 t6, .int .i64 t7, .int .i64 e, .bool b, .int .i64 n, .int .i64 c, .int .i64 k, .int .i64 x]) w)) : Calls Tryz.prog 187 #[v] w (VB (.bool true) w) := by
  have H := Lib.hid h
  clear h
  have qfd := qf0 (none) t0 t1 t2 t3 t4 t5 t6 t7 e n c k x b
  go_enter Tryz.func187, Tryz.ntmps187
  go_wp2_with fail
  refine H.out.mono ?_
  rintro e w1 ⟨rfl, hb⟩
  have HB := Lib.hid hb
  clear hb
  go_wp2_with fail
  go_ret
  exact ⟨rfl, HB.out⟩
theorem dead_of (h : Calls Tryz.prog 122 #[v] w (VB (.agg #[.pointer p, .int .i64 t0, .int .i64 t1, .int .i64 t2, .int .i64 t3, .int .i64 t4, .int .i64 t5, .int .i64 t6, .int .i64 t7, .int .i64 e, .bool b, .int .i64 n, .int .i64 c, .int .i64 k, .int .i64 x]) w)) : Calls Tryz.prog 70 #[v] w (VB (.int .i64 e) w) := by
  have H := Lib.hid h
  clear h
  have qfd := qf2 (p) t0 t1 t2 t3 t4 t5 t6 t7 e n c k x b
  go_enter Tryz.func70, Tryz.ntmps70
  go_wp2_with fail
  refine H.out.mono ?_
  rintro e' w1 ⟨rfl, hb⟩
  have HB := Lib.hid hb
  clear hb
  go_wp2_with fail
  go_ret
  exact ⟨rfl, HB.out⟩
theorem begun_of (h : Calls Tryz.prog 122 #[v] w (VB (.agg #[.pointer p, .int .i64 t0, .int .i64 t1, .int .i64 t2, .int .i64 t3, .int .i64 t4, .int .i64 t5, .int .i64 t6, .int .i64 t7, .int .i64 e, .bool b, .int .i64 n, .int .i64 c, .int .i64 k, .int .i64 x]) w)) : Calls Tryz.prog 129 #[v] w (VB (.bool b) w) := by
  have H := Lib.hid h
  clear h
  have qfd := qf3 (p) t0 t1 t2 t3 t4 t5 t6 t7 e n c k x b
  go_enter Tryz.func129, Tryz.ntmps129
  go_wp2_with fail
  refine H.out.mono ?_
  rintro e' w1 ⟨rfl, hb⟩
  have HB := Lib.hid hb
  clear hb
  go_wp2_with fail
  go_ret
  exact ⟨rfl, HB.out⟩
set_option maxRecDepth 100000 in
theorem into_of (h : Calls Tryz.prog 122 #[v] w (VB (.agg #[.pointer p, .int .i64 t0, .int .i64 t1, .int .i64 t2, .int .i64 t3, .int .i64 t4, .int .i64 t5, .int .i64 t6, .int .i64 t7, .int .i64 e, .bool b, .int .i64 n, .int .i64 c, .int .i64 k, .int .i64 x]) w)) : Calls Tryz.prog 140 #[v] w (VB (.tuple #[.int .i64 c, .int .i64 k]) w) := by
  have H := Lib.hid h
  clear h
  go_enter Tryz.func140, Tryz.ntmps140
  go_wp2_with fail
  refine H.out.mono ?_
  rintro e' w1 ⟨rfl, hb⟩
  have HB := Lib.hid (hb.alloc hb.size (.cells #[.pointer p, .int .i64 t0, .int .i64 t1, .int .i64 t2, .int .i64 t3, .int .i64 t4, .int .i64 t5, .int .i64 t6, .int .i64 t7, .int .i64 e, .bool b, .int .i64 n, .int .i64 c, .int .i64 k, .int .i64 x] 149))
  have a1 : (w1.alloc (.cells #[.pointer p, .int .i64 t0, .int .i64 t1, .int .i64 t2, .int .i64 t3, .int .i64 t4, .int .i64 t5, .int .i64 t6, .int .i64 t7, .int .i64 e, .bool b, .int .i64 n, .int .i64 c, .int .i64 k, .int .i64 x] 149)).cell? ⟨w1.heap.size, 12, none⟩ = some (.int .i64 c) := cell_of_row _ _ 12 _ _ _ (heap_alloc_new w1 _)
  have a2 : (w1.alloc (.cells #[.pointer p, .int .i64 t0, .int .i64 t1, .int .i64 t2, .int .i64 t3, .int .i64 t4, .int .i64 t5, .int .i64 t6, .int .i64 t7, .int .i64 e, .bool b, .int .i64 n, .int .i64 c, .int .i64 k, .int .i64 x] 149)).cell? ⟨w1.heap.size, 13, none⟩ = some (.int .i64 k) := cell_of_row _ _ 13 _ _ _ (heap_alloc_new w1 _)
  clear hb
  go_wp2_with fail
  go_quiet (fail)
  go_wp2_with fail
  go_ret2
  exact ⟨rfl, below_drewN HB.out _⟩
set_option maxHeartbeats 1000000 in
theorem jnext_of {q l : Int} {s : ByteArray} {i : Bool} (h : Calls Tryz.prog 122 #[v] (w.alloc (.cells #[.int .i64 0, .int .i64 0, .string ⟨#[]⟩] 57)) (VB (.agg #[.pointer p, .int .i64 t0, .int .i64 t1, .int .i64 t2, .int .i64 t3, .int .i64 t4, .int .i64 t5, .int .i64 t6, .int .i64 t7, .int .i64 e, .bool b, .int .i64 n, .int .i64 c, .int .i64 k, .int .i64 x]) (w.alloc (.cells #[.int .i64 0, .int .i64 0, .string ⟨#[]⟩] 57))))
    (hn : ∀ w', Below w.heap.size w w' → Calls Tryz.prog 162 #[.pointer p] w' (VB (.tuple #[.agg #[.int .i64 q, .int .i64 l, .string s], .bool i]) w')) :
    Calls Tryz.prog 98 #[v] w (VB (.tuple #[.agg #[.int .i64 q, .int .i64 l, .string s], .bool i]) w) := by
  have H := Lib.hid h
  have HN := Lib.hid hn
  have HV := Lib.hid (AB.new w 0 0 ⟨#[]⟩)
  clear h hn
  have qfd := qf0 (p) t0 t1 t2 t3 t4 t5 t6 t7 e n c k x b
  go_enter Tryz.func98, Tryz.ntmps98
  go_wp2_with fail
  refine H.out.mono ?_
  rintro e' w1 ⟨rfl, hb⟩
  have HB := Lib.hid ((below_al w _).trans (hb.mono (by simp)))
  have HV1 := Lib.hid (HV.out.below hb)
  clear hb H HV
  go_wp2_with fail
  refine (HN.out _ HB.out).mono ?_
  rintro e' w2 ⟨rfl, hb⟩
  have hv := HV1.out.below hb
  obtain ⟨v0, v1, v2⟩ := hv.cells
  obtain ⟨f0, f1, f2⟩ := hv.free
  obtain ⟨e0, e1, e2⟩ := (hv.set q l s).cells
  have HB2 : Hid (Below w.heap.size w (((w2.setCell ⟨w.heap.size, 0, none⟩ (.int .i64 q)).setCell ⟨w.heap.size, 1, none⟩ (.int .i64 l)).setCell ⟨w.heap.size, 2, none⟩ (.string s))) :=
    (((HB.out.trans (hb.mono HB.out.size)).setCell (p := ⟨w.heap.size, 0, none⟩) (Nat.le_refl _) _).setCell (p := ⟨w.heap.size, 1, none⟩) (Nat.le_refl _) _).setCell (p := ⟨w.heap.size, 2, none⟩) (Nat.le_refl _) _
  clear hb hv HN HV1 HB
  go_wp2_with fail
  refine bodyPost_ret (v := .tuple #[.agg #[.int .i64 q, .int .i64 l, .string s], .bool i]) (by simp [results, Tryz.results98, go_sem, e0, e1, e2]) rfl ?_
  exact ⟨rfl, HB2.out⟩
end
section
variable {w : World} {jb rb g : Nat} {s : Jb}
theorem pj_told (h : PJ w jb rb g s) : Calls Tryz.prog 122 #[.pointer (some ⟨jb, 0, none⟩)] w (VB (.agg (pcl s rb)) w) := told_cells h.ob
theorem pj_is (h : PJ w jb rb g s) : Calls Tryz.prog 187 #[.pointer (some ⟨jb, 0, none⟩)] w (VB (.bool false) w) := is_some (pj_told h)
theorem pj_dead (h : PJ w jb rb g s) : Calls Tryz.prog 70 #[.pointer (some ⟨jb, 0, none⟩)] w (VB (.int .i64 s.e) w) := dead_of (pj_told h)
theorem pj_begun (h : PJ w jb rb g s) : Calls Tryz.prog 129 #[.pointer (some ⟨jb, 0, none⟩)] w (VB (.bool s.b) w) := begun_of (pj_told h)
theorem pj_into (h : PJ w jb rb g s) : Calls Tryz.prog 140 #[.pointer (some ⟨jb, 0, none⟩)] w (VB (.tuple #[.int .i64 s.c, .int .i64 s.k]) w) := into_of (pj_told h)
theorem pj_next (h : PJ w jb rb g s) : Calls Tryz.prog 98 #[.pointer (some ⟨jb, 0, none⟩)] w (VB (nv s.l) w) :=
  jnext_of (pj_told (h.below (below_al w _))) (fun w' hb => next_any (h.below hb).rw)
end
end Go.Proofs.YtkkmfpllgjoceaaGreat

namespace Go.Proofs.YtkkmfpllgjoceaaGreat
open Go.RowKit Go.Sort Ac Jo
set_option linter.unusedVariables false
set_option maxRecDepth 100000

section
variable {w : World} {jb rb g : Nat} {s : Jb}
theorem pj_toldL (h : PJ w jb rb g s) : Calls Tryz.prog 122 #[.pointer (some ⟨jb, 0, none⟩)] w (VB (.agg #[.pointer (some ⟨rb, 0, none⟩), .int .i64 (s.t 0), .int .i64 (s.t 1), .int .i64 (s.t 2), .int .i64 (s.t 3), .int .i64 (s.t 4), .int .i64 (s.t 5), .int .i64 (s.t 6), .int .i64 (s.t 7), .int .i64 s.e, .bool s.b, .int .i64 s.n, .int .i64 s.c, .int .i64 s.k, .int .i64 s.x]) w) := pj_told h
set_option maxHeartbeats 1000000 in
theorem pj_did (h : PJ w jb rb g s) (hi : Inv s) : Calls Tryz.prog 78 #[.pointer (some ⟨jb, 0, none⟩)] w (PP (.int .i64 (didE s.l)) jb rb g (didJ s) w) := by
  have HT := Lib.hid (pj_toldL h)
  have hl := Lib.hid hi.gd.len
  have H := Lib.hid h
  have qfd := qf0 (some ⟨rb, 0, none⟩) (s.t 0) (s.t 1) (s.t 2) (s.t 3) (s.t 4) (s.t 5) (s.t 6) (s.t 7) s.e s.n s.c s.k s.x s.b
  clear h hi
  rcases didE_or s.l with hr | hr
  · have HR := Lib.hid hr
    rw [hr]
    clear hr
    go_enter Tryz.func78, Tryz.ntmps78
    go_wp2_with fail
    refine HT.out.mono ?_
    rintro e w1 ⟨rfl, hb⟩
    have H1 := Lib.hid (H.out.below hb)
    have HB := Lib.hid hb
    have HC := Lib.hid (did_any H1.out.rw hl.out)
    rw [HR.out] at HC
    clear hb H HT
    go_wp2_with fail
    refine HC.out.mono ?_
    rintro e w2 ⟨rfl, h1, h2⟩
    obtain ⟨hj, ho⟩ := H1.out.row (s' := ⟨s.t, s.e, s.n, s.c, s.k, s.x, s.b, didL s.l⟩) h1 h2 rfl
    obtain ⟨hj2, ho2⟩ := hj.set (s' := ⟨s.t, s.e, s.n, s.c, s.k, s.x, true, didL s.l⟩) 10 (.bool true) rfl rfl
    have HF := Lib.hid (show PP (.int .i64 0) jb rb g (didJ s) w (.returned (.int .i64 0)) (w2.setCell ⟨jb, 10, none⟩ (.bool true)) from ⟨rfl, by unfold didJ; rw [if_pos HR.out]; exact hj2, ((tri_below HB.out).trans ho).trans ho2⟩)
    have f := hj.free 10
    have cc : w2.cell? ⟨jb, 10, none⟩ = some (.bool s.b) := hj.cell 10
    clear h1 h2 hj ho hj2 ho2 qfd
    go_wp2_with fail
    go_ret
    exact HF.out
  · have HR := Lib.hid hr
    rw [hr]
    clear hr
    go_enter Tryz.func78, Tryz.ntmps78
    go_wp2_with fail
    refine HT.out.mono ?_
    rintro e w1 ⟨rfl, hb⟩
    have H1 := Lib.hid (H.out.below hb)
    have HB := Lib.hid hb
    have HC := Lib.hid (did_any H1.out.rw hl.out)
    rw [HR.out] at HC
    clear hb H HT
    go_wp2_with fail
    refine HC.out.mono ?_
    rintro e w2 ⟨rfl, h1, h2⟩
    have HF := Lib.hid (show PP (.int .i64 250) jb rb g (didJ s) w (.returned (.int .i64 250)) w2 from by
      have hl := did_same HR.out
      rw [hl] at h1
      obtain ⟨hj, ho⟩ := H1.out.row (s' := s) h1 h2 rfl
      exact ⟨rfl, by unfold didJ; rw [if_neg (by rw [HR.out]; decide)]; exact hj, (tri_below HB.out).trans ho⟩)
    clear h1 h2 qfd
    go_wp2_with fail
    go_ret
    exact HF.out
set_option maxHeartbeats 2000000 in
theorem pj_run (h : PJ w jb rb g s) (hi : Inv s) : Calls Tryz.prog 79 #[.pointer (some ⟨jb, 0, none⟩)] w (PP (.int .i64 (runE s)) jb rb g (runJ s) w) := by
  have HT := Lib.hid (pj_toldL h)
  have H := Lib.hid h
  have HG := Lib.hid hi.gd
  have hn0 := hi.n0
  have hk0 := hi.k0
  have hkn := hi.kn
  have hnl : s.n ≤ 2048 := by have := hi.nl; have := left_bd hi.gd.all; omega
  have qfd := qf0 (some ⟨rb, 0, none⟩) (s.t 0) (s.t 1) (s.t 2) (s.t 3) (s.t 4) (s.t 5) (s.t 6) (s.t 7) s.e s.n s.c s.k s.x s.b
  have qfe := qf5 (some ⟨rb, 0, none⟩) (s.t 0) (s.t 1) (s.t 2) (s.t 3) (s.t 4) (s.t 5) (s.t 6) (s.t 7) s.e s.n s.c s.k s.x s.b
  clear h hi
  by_cases h3 : s.c = 3
  · have HR := Lib.hid h3
    have hre : runE s = 250 := if_pos h3
    have hrj : runJ s = s := if_pos h3
    have hd3 : (s.c == 3) = true := by simpa using h3
    rw [hre, hrj]
    clear hre hrj h3
    go_enter Tryz.func79, Tryz.ntmps79
    go_wp2_with fail
    refine HT.out.mono ?_
    rintro e w1 ⟨rfl, hb⟩
    have HF := Lib.hid (show PP (.int .i64 250) jb rb g s w (.returned (.int .i64 250)) w1 from ⟨rfl, H.out.below hb, tri_below hb⟩)
    clear hb H HT
    go_wp2_with fail
    go_ret
    exact HF.out
  · have hd3 : (s.c == 3) = false := by simpa using h3
    rcases ranE_or s.l with hr | hr
    · have HR := Lib.hid hr
      have hre : runE s = 0 := by unfold runE; rw [if_neg h3]; exact hr
      have hrj : runJ s = ⟨s.t, s.e, s.n + 1, s.c, s.k + 1, s.x, true, ranL s.l⟩ := by unfold runJ; rw [if_neg h3, if_pos hr]
      rw [hre, hrj]
      clear hr hre hrj h3
      go_enter Tryz.func79, Tryz.ntmps79
      go_wp2_with fail
      refine HT.out.mono ?_
      rintro e w1 ⟨rfl, hb⟩
      have H1 := Lib.hid (H.out.below hb)
      have HB := Lib.hid hb
      have HT1 := Lib.hid (pj_toldL H1.out)
      clear hb H HT
      go_wp2_with fail
      refine HT1.out.mono ?_
      rintro e w1' ⟨rfl, hb⟩
      have H2 := Lib.hid (H1.out.below hb)
      have HB2 := Lib.hid (chn HB.out hb)
      have HC := Lib.hid (ran_any H2.out.rw HG.out)
      rw [HR.out] at HC
      clear hb H1 HT1 HB
      go_wp2_with fail
      refine HC.out.mono ?_
      rintro e w2 ⟨rfl, h1, h2⟩
      obtain ⟨hj, ho⟩ := H2.out.row (s' := ⟨s.t, s.e, s.n, s.c, s.k, s.x, s.b, ranL s.l⟩) h1 h2 rfl
      obtain ⟨hj2, ho2⟩ := hj.set (s' := ⟨s.t, s.e, s.n, s.c, s.k, s.x, true, ranL s.l⟩) 10 (.bool true) rfl rfl
      obtain ⟨hj3, ho3⟩ := hj2.set (s' := ⟨s.t, s.e, s.n + 1, s.c, s.k, s.x, true, ranL s.l⟩) 11 (.int .i64 (s.n + 1)) rfl rfl
      obtain ⟨hj4, ho4⟩ := hj3.set (s' := ⟨s.t, s.e, s.n + 1, s.c, s.k + 1, s.x, true, ranL s.l⟩) 13 (.int .i64 (s.k + 1)) rfl rfl
      have HF := Lib.hid (show PP (.int .i64 0) jb rb g ⟨s.t, s.e, s.n + 1, s.c, s.k + 1, s.x, true, ranL s.l⟩ w (.returned (.int .i64 0)) _ from ⟨rfl, hj4, ((((tri_below HB2.out).trans ho).trans ho2).trans ho3).trans ho4⟩)
      have f10 := hj.free 10
      have f11 := hj2.free 11
      have f13 := hj3.free 13
      have e10 : w2.cell? ⟨jb, 10, none⟩ = some (.bool s.b) := hj.cell 10
      have e11 : (w2.setCell ⟨jb, 10, none⟩ (.bool true)).cell? ⟨jb, 11, none⟩ = some (.int .i64 s.n) := hj2.cell 11
      have e13 : ((w2.setCell ⟨jb, 10, none⟩ (.bool true)).setCell ⟨jb, 11, none⟩ (.int .i64 (s.n + 1))).cell? ⟨jb, 13, none⟩ = some (.int .i64 s.k) := hj3.cell 13
      clear h1 h2 hj ho hj2 ho2 hj3 ho3 hj4 ho4 qfd qfe
      go_wp2_with fail
      go_ret
      exact HF.out
    · have HR := Lib.hid hr
      have hre : runE s = 250 := by unfold runE; rw [if_neg h3]; exact hr
      have hrj : runJ s = s := by unfold runJ; rw [if_neg h3, if_neg (by rw [hr]; decide)]
      rw [hre, hrj]
      clear hr hre hrj h3
      go_enter Tryz.func79, Tryz.ntmps79
      go_wp2_with fail
      refine HT.out.mono ?_
      rintro e w1 ⟨rfl, hb⟩
      have H1 := Lib.hid (H.out.below hb)
      have HB := Lib.hid hb
      have HT1 := Lib.hid (pj_toldL H1.out)
      clear hb H HT
      go_wp2_with fail
      refine HT1.out.mono ?_
      rintro e w1' ⟨rfl, hb⟩
      have H2 := Lib.hid (H1.out.below hb)
      have HB2 := Lib.hid (chn HB.out hb)
      have HC := Lib.hid (ran_any H2.out.rw HG.out)
      rw [HR.out] at HC
      clear hb H1 HT1 HB
      go_wp2_with fail
      refine HC.out.mono ?_
      rintro e w2 ⟨rfl, h1, h2⟩
      have HF := Lib.hid (show PP (.int .i64 250) jb rb g s w (.returned (.int .i64 250)) w2 from by
        have hl := ran_same HR.out
        rw [hl] at h1
        obtain ⟨hj, ho⟩ := H2.out.row (s' := s) h1 h2 rfl
        exact ⟨rfl, hj, (tri_below HB2.out).trans ho⟩)
      clear h1 h2 qfd qfe
      go_wp2_with fail
      go_ret
      exact HF.out
theorem pj_goto (h : PJ w jb rb g s) (a : Int) : Calls Tryz.prog 186 #[.pointer (some ⟨jb, 0, none⟩), .int .i64 a] w (PP (.tuple #[]) jb rb g ⟨s.t, s.e, s.n, a, 0, s.x, s.b, s.l⟩ w) := by
  obtain ⟨hj, ho⟩ := h.set (s' := ⟨s.t, s.e, s.n, a, s.k, s.x, s.b, s.l⟩) 12 (.int .i64 a) rfl rfl
  obtain ⟨hj2, ho2⟩ := hj.set (s' := ⟨s.t, s.e, s.n, a, 0, s.x, s.b, s.l⟩) 13 (.int .i64 0) rfl rfl
  have HF := Lib.hid (show PP (.tuple #[]) jb rb g ⟨s.t, s.e, s.n, a, 0, s.x, s.b, s.l⟩ w (.returned (.tuple #[])) _ from ⟨rfl, hj2, ho.trans ho2⟩)
  have f12 := h.free 12
  have f13 := hj.free 13
  have e12 : w.cell? ⟨jb, 12, none⟩ = some (.int .i64 s.c) := h.cell 12
  have e13 : (w.setCell ⟨jb, 12, none⟩ (.int .i64 a)).cell? ⟨jb, 13, none⟩ = some (.int .i64 s.k) := hj.cell 13
  clear h hj ho hj2 ho2
  go_enter Tryz.func186, Tryz.ntmps186
  go_wp2_with fail
  go_returns
  exact HF.out
theorem pj_take (h : PJ w jb rb g s) (a : Int) : Calls Tryz.prog 185 #[.pointer (some ⟨jb, 0, none⟩), .int .i64 a] w (IsB (s.c == 0 && a != 1) w) := by
  have e12 : w.cell? ⟨jb, 12, none⟩ = some (.int .i64 s.c) := h.cell 12
  clear h
  generalize s.c = c at *
  cases h0 : c == 0 with
  | false =>
    go_enter Tryz.func185, Tryz.ntmps185
    go_wp2_with fail
    go_ret
    exact ⟨rfl, rfl⟩
  | true =>
    go_enter Tryz.func185, Tryz.ntmps185
    go_wp2_with fail
    go_ret
    exact ⟨rfl, rfl⟩
theorem pj_wait (h : PJ w jb rb g s) (a : Int) : Calls Tryz.prog 202 #[.pointer (some ⟨jb, 0, none⟩), .int .i64 a] w (IsB (s.c == 3 && a == 2) w) := by
  have e12 : w.cell? ⟨jb, 12, none⟩ = some (.int .i64 s.c) := h.cell 12
  clear h
  generalize s.c = c at *
  cases h0 : c == 3 with
  | false =>
    go_enter Tryz.func202, Tryz.ntmps202
    go_wp2_with fail
    go_ret
    exact ⟨rfl, rfl⟩
  | true =>
    go_enter Tryz.func202, Tryz.ntmps202
    go_wp2_with fail
    go_ret
    exact ⟨rfl, rfl⟩
set_option maxHeartbeats 1000000
theorem pj_may_low (h : PJ w jb rb g s) (a : Int) (h1 : a < 1) : Calls Tryz.prog 184 #[.pointer (some ⟨jb, 0, none⟩), .int .i64 a] w (VB (.int .i64 2) w) := by
  have HI := Lib.hid (pj_is h)
  have H := Lib.hid h
  clear h
  have d1 : decide (a < 1) = true := by simpa using h1
  clear h1
  go_enter Tryz.func184, Tryz.ntmps184
  go_wp2_with fail
  refine HI.out.mono ?_
  rintro e w1 ⟨rfl, hb⟩
  have H1 := Lib.hid (H.out.below hb)
  have HB := Lib.hid hb
  have c12 : w1.cell? ⟨jb, 12, none⟩ = some (.int .i64 s.c) := H1.out.cell 12
  clear hb H HI
  go_wp2_with fail
  go_ret
  exact ⟨rfl, HB.out⟩
theorem pj_may_high (h : PJ w jb rb g s) (a : Int) (h1 : 3 < a) : Calls Tryz.prog 184 #[.pointer (some ⟨jb, 0, none⟩), .int .i64 a] w (VB (.int .i64 2) w) := by
  have HI := Lib.hid (pj_is h)
  have H := Lib.hid h
  clear h
  have d1 : decide (a < 1) = false := by simp; omega
  have d2 : decide (3 < a) = true := by simpa using h1
  clear h1
  go_enter Tryz.func184, Tryz.ntmps184
  go_wp2_with fail
  refine HI.out.mono ?_
  rintro e w1 ⟨rfl, hb⟩
  have H1 := Lib.hid (H.out.below hb)
  have HB := Lib.hid hb
  have c12 : w1.cell? ⟨jb, 12, none⟩ = some (.int .i64 s.c) := H1.out.cell 12
  clear hb H HI
  go_wp2_with fail
  go_ret
  exact ⟨rfl, HB.out⟩
theorem pj_may_nest (h : PJ w jb rb g s) (a : Int) (h1 : 1 ≤ a) (h2 : a ≤ 3) (h3 : s.c ≠ 0) (h4 : ¬ (s.c = 3 ∧ a = 2)) : Calls Tryz.prog 184 #[.pointer (some ⟨jb, 0, none⟩), .int .i64 a] w (VB (.int .i64 130) w) := by
  have HI := Lib.hid (pj_is h)
  have H := Lib.hid h
  clear h
  have d1 : decide (a < 1) = false := by simp; omega
  have d2 : decide (3 < a) = false := by simp; omega
  have d3 : (s.c != 0) = true := by simpa using h3
  have d3' : (s.c == 0) = false := by simpa using h3
  have hv : (s.c == 3 && a == 2) = false := by
    cases hq : (s.c == 3 && a == 2) with
    | false => rfl
    | true => exact absurd (by simpa using hq) h4
  have HV := Lib.hid hv
  clear h1 h2 h3 h4 hv
  go_enter Tryz.func184, Tryz.ntmps184
  go_wp2_with fail
  refine HI.out.mono ?_
  rintro e w1 ⟨rfl, hb⟩
  have H1 := Lib.hid (H.out.below hb)
  have HB := Lib.hid hb
  have c12 : w1.cell? ⟨jb, 12, none⟩ = some (.int .i64 s.c) := H1.out.cell 12
  clear hb H HI
  go_wp2_with fail
  have HW := pj_wait H1.out a
  rw [HV.out] at HW
  refine HW.mono ?_
  rintro e w2 ⟨rfl, rfl⟩
  go_wp2_with fail
  go_ret
  exact ⟨rfl, HB.out⟩
theorem pj_may_global (h : PJ w jb rb g s) (a : Int) (h3 : s.c = 3) (h4 : a = 2) : Calls Tryz.prog 184 #[.pointer (some ⟨jb, 0, none⟩), .int .i64 a] w (VB (.int .i64 0) w) := by
  have HI := Lib.hid (pj_is h)
  have H := Lib.hid h
  clear h
  subst h4
  have d1 : decide ((2 : Int) < 1) = false := by decide
  have d3 : (s.c != 0) = true := by simp; omega
  have hw : (s.c == 3 && (2 : Int) == 2) = true := by simp; omega
  have HW := Lib.hid hw
  have hv : (s.c == 0 && (2 : Int) != 1) = false := by simp; omega
  have HV := Lib.hid hv
  clear h3 hw hv
  go_enter Tryz.func184, Tryz.ntmps184
  go_wp2_with fail
  refine HI.out.mono ?_
  rintro e w1 ⟨rfl, hb⟩
  have H1 := Lib.hid (H.out.below hb)
  have HB := Lib.hid hb
  have c12 : w1.cell? ⟨jb, 12, none⟩ = some (.int .i64 s.c) := H1.out.cell 12
  clear hb H HI
  go_wp2_with fail
  have HW2 := pj_wait H1.out 2
  rw [HW.out] at HW2
  refine HW2.mono ?_
  clear HW
  rintro e w2 ⟨rfl, rfl⟩
  go_wp2_with fail
  have k8 : w1.cell? ⟨jb, 8, none⟩ = some (.int .i64 (s.t 7)) := H1.out.cell 8
  have k14 : w1.cell? ⟨jb, 14, none⟩ = some (.int .i64 s.x) := H1.out.cell 14
  have C1 := Lib.hid (fun d => pj_take (H1.out.drewN d) 2)
  rw [HV.out] at C1
  clear H1 c12 HV
  generalize s.t 7 = t7 at *
  generalize s.x = x at *
  go_quiet ((go_at_call 185; exact Calls.quiet_of_same ((C1.out _).mono fun _ _ ⟨e1, e2⟩ => ⟨e1, e2.symm⟩)))
  go_wp2_with fail
  go_ret
  exact ⟨rfl, below_drewN HB.out _⟩
theorem pj_may_local (h : PJ w jb rb g s) (a : Int) (h3 : s.c = 0) (h4 : a = 1) : Calls Tryz.prog 184 #[.pointer (some ⟨jb, 0, none⟩), .int .i64 a] w (VB (.int .i64 0) w) := by
  have HI := Lib.hid (pj_is h)
  have H := Lib.hid h
  clear h
  subst h4
  have d1 : decide ((1 : Int) < 1) = false := by decide
  have d3 : (s.c != 0) = false := by simp; omega
  have hv : (s.c == 0 && (1 : Int) != 1) = false := by simp
  have HV := Lib.hid hv
  clear h3 hv
  go_enter Tryz.func184, Tryz.ntmps184
  go_wp2_with fail
  refine HI.out.mono ?_
  rintro e w1 ⟨rfl, hb⟩
  have H1 := Lib.hid (H.out.below hb)
  have HB := Lib.hid hb
  have c12 : w1.cell? ⟨jb, 12, none⟩ = some (.int .i64 s.c) := H1.out.cell 12
  clear hb H HI
  go_wp2_with fail
  have k8 : w1.cell? ⟨jb, 8, none⟩ = some (.int .i64 (s.t 7)) := H1.out.cell 8
  have k14 : w1.cell? ⟨jb, 14, none⟩ = some (.int .i64 s.x) := H1.out.cell 14
  have C1 := Lib.hid (fun d => pj_take (H1.out.drewN d) 1)
  rw [HV.out] at C1
  clear H1 c12 HV
  generalize s.t 7 = t7 at *
  generalize s.x = x at *
  go_quiet ((go_at_call 185; exact Calls.quiet_of_same ((C1.out _).mono fun _ _ ⟨e1, e2⟩ => ⟨e1, e2.symm⟩)))
  go_wp2_with fail
  go_ret
  exact ⟨rfl, below_drewN HB.out _⟩
theorem pj_may_bound (h : PJ w jb rb g s) (a : Int) (h1 : 1 ≤ a) (h2 : a ≤ 3) (h3 : s.c = 0) (h4 : a ≠ 1) (h5 : s.t 7 ≤ s.x) : Calls Tryz.prog 184 #[.pointer (some ⟨jb, 0, none⟩), .int .i64 a] w (VB (.int .i64 170) w) := by
  have HI := Lib.hid (pj_is h)
  have H := Lib.hid h
  clear h
  have d1 : decide (a < 1) = false := by simp; omega
  have d2 : decide (3 < a) = false := by simp; omega
  have d3 : (s.c != 0) = false := by simp; omega
  have hv : (s.c == 0 && a != 1) = true := by simp; omega
  have d6 : decide (s.t 7 ≤ s.x) = true := by simpa using h5
  clear h1 h2 h4 h5
  have HV := Lib.hid hv
  clear h3 hv
  go_enter Tryz.func184, Tryz.ntmps184
  go_wp2_with fail
  refine HI.out.mono ?_
  rintro e w1 ⟨rfl, hb⟩
  have H1 := Lib.hid (H.out.below hb)
  have HB := Lib.hid hb
  have c12 : w1.cell? ⟨jb, 12, none⟩ = some (.int .i64 s.c) := H1.out.cell 12
  clear hb H HI
  go_wp2_with fail
  have k8 : w1.cell? ⟨jb, 8, none⟩ = some (.int .i64 (s.t 7)) := H1.out.cell 8
  have k14 : w1.cell? ⟨jb, 14, none⟩ = some (.int .i64 s.x) := H1.out.cell 14
  have C1 := Lib.hid (fun d => pj_take (H1.out.drewN d) a)
  rw [HV.out] at C1
  clear H1 c12 HV
  generalize s.t 7 = t7 at *
  generalize s.x = x at *
  go_quiet ((go_at_call 185; exact Calls.quiet_of_same ((C1.out _).mono fun _ _ ⟨e1, e2⟩ => ⟨e1, e2.symm⟩)))
  go_wp2_with fail
  go_ret
  exact ⟨rfl, below_drewN HB.out _⟩
theorem pj_may_take (h : PJ w jb rb g s) (a : Int) (h1 : 1 ≤ a) (h2 : a ≤ 3) (h3 : s.c = 0) (h4 : a ≠ 1) (h5 : ¬ s.t 7 ≤ s.x) : Calls Tryz.prog 184 #[.pointer (some ⟨jb, 0, none⟩), .int .i64 a] w (VB (.int .i64 0) w) := by
  have HI := Lib.hid (pj_is h)
  have H := Lib.hid h
  clear h
  have d1 : decide (a < 1) = false := by simp; omega
  have d2 : decide (3 < a) = false := by simp; omega
  have d3 : (s.c != 0) = false := by simp; omega
  have hv : (s.c == 0 && a != 1) = true := by simp; omega
  have d6 : decide (s.t 7 ≤ s.x) = false := by simpa using h5
  clear h1 h2 h4 h5
  have HV := Lib.hid hv
  clear h3 hv
  go_enter Tryz.func184, Tryz.ntmps184
  go_wp2_with fail
  refine HI.out.mono ?_
  rintro e w1 ⟨rfl, hb⟩
  have H1 := Lib.hid (H.out.below hb)
  have HB := Lib.hid hb
  have c12 : w1.cell? ⟨jb, 12, none⟩ = some (.int .i64 s.c) := H1.out.cell 12
  clear hb H HI
  go_wp2_with fail
  have k8 : w1.cell? ⟨jb, 8, none⟩ = some (.int .i64 (s.t 7)) := H1.out.cell 8
  have k14 : w1.cell? ⟨jb, 14, none⟩ = some (.int .i64 s.x) := H1.out.cell 14
  have C1 := Lib.hid (fun d => pj_take (H1.out.drewN d) a)
  rw [HV.out] at C1
  clear H1 c12 HV
  generalize s.t 7 = t7 at *
  generalize s.x = x at *
  go_quiet ((go_at_call 185; exact Calls.quiet_of_same ((C1.out _).mono fun _ _ ⟨e1, e2⟩ => ⟨e1, e2.symm⟩)))
  go_wp2_with fail
  go_ret
  exact ⟨rfl, below_drewN HB.out _⟩
theorem pj_may (h : PJ w jb rb g s) (a : Int) : Calls Tryz.prog 184 #[.pointer (some ⟨jb, 0, none⟩), .int .i64 a] w (VB (.int .i64 (entE s a)) w) := by
  unfold entE
  split
  · rename_i q
    rcases q with q | q
    · exact pj_may_low h a q
    · exact pj_may_high h a q
  rename_i q1
  split
  · rename_i q
    exact pj_may_global h a q.1 q.2
  rename_i q2
  split
  · rename_i q
    exact pj_may_nest h a (by omega) (by omega) q q2
  rename_i q3
  split
  · rename_i q
    exact pj_may_bound h a (by omega) (by omega) (by omega) q.1 q.2
  · rename_i q
    by_cases h1 : a = 1
    · exact pj_may_local h a (by omega) h1
    · exact pj_may_take h a (by omega) (by omega) (by omega) h1 (fun x => q ⟨h1, x⟩)
set_option maxHeartbeats 1000000 in
theorem pj_enter (h : PJ w jb rb g s) (hi : Inv s) (a : Int) : Calls Tryz.prog 146 #[.pointer (some ⟨jb, 0, none⟩), .int .i64 a] w (PP (.int .i64 (entE s a)) jb rb g (entJ s a) w) := by
  have HM := Lib.hid (pj_may h a)
  have H := Lib.hid h
  have hx0 := hi.x0
  have hxm : entE s a = 0 → s.c = 0 → a ≠ 1 → s.x ≤ 9223372036854775806 := fun he hc ha => by
    have := hi.tm
    unfold entE at he
    split at he
    · exact absurd he (by decide)
    split at he
    · omega
    split at he
    · exact absurd he (by decide)
    split at he
    · exact absurd he (by decide)
    · omega
  have HX := Lib.hid hxm
  clear h hi hxm
  by_cases he : entE s a = 0
  · have HE := Lib.hid he
    rw [he] at HM
    by_cases hc : s.c = 0 ∧ a ≠ 1
    · have hxm := HX.out he hc.1 hc.2
      have hv : (s.c == 0 && a != 1) = true := by simp; exact hc
      have HV := Lib.hid hv
      have hj : entJ s a = ⟨s.t, s.e, s.n, a, 0, s.x + 1, s.b, s.l⟩ := by unfold entJ; rw [if_pos he, if_pos hc]
      rw [he, hj]
      clear he hc hv hj HX
      go_enter Tryz.func146, Tryz.ntmps146
      go_wp2_with fail
      refine HM.out.mono ?_
      rintro e w1 ⟨rfl, hb⟩
      have H1 := Lib.hid (H.out.below hb)
      have HB := Lib.hid hb
      clear hb H HM
      go_wp2_with fail
      have HW := pj_take H1.out a
      rw [HV.out] at HW
      refine HW.mono ?_
      clear HW HV
      rintro e w2 ⟨rfl, rfl⟩
      obtain ⟨hj, ho⟩ := H1.out.set (s' := ⟨s.t, s.e, s.n, s.c, s.k, s.x + 1, s.b, s.l⟩) 14 (.int .i64 (s.x + 1)) rfl rfl
      have HJ := Lib.hid hj
      have HO := Lib.hid ((tri_below HB.out).trans ho)
      have f14 := H1.out.free 14
      have e14 : w1.cell? ⟨jb, 14, none⟩ = some (.int .i64 s.x) := H1.out.cell 14
      clear hj ho
      go_wp2_with fail
      refine (pj_goto HJ.out a).mono ?_
      rintro e w3 ⟨rfl, hj, ho⟩
      have HF := Lib.hid (show PP (.int .i64 0) jb rb g ⟨s.t, s.e, s.n, a, 0, s.x + 1, s.b, s.l⟩ w (.returned (.int .i64 0)) w3 from ⟨rfl, hj, HO.out.trans ho⟩)
      clear hj ho f14 e14
      go_wp2_with fail
      go_ret
      exact HF.out
    · have hv : (s.c == 0 && a != 1) = false := by
        cases hq : (s.c == 0 && a != 1) with
        | false => rfl
        | true => exact absurd (by simpa using hq) hc
      have HV := Lib.hid hv
      have hj : entJ s a = ⟨s.t, s.e, s.n, a, 0, s.x, s.b, s.l⟩ := by unfold entJ; rw [if_pos he, if_neg hc]
      rw [he, hj]
      clear he hc hv hj HX
      go_enter Tryz.func146, Tryz.ntmps146
      go_wp2_with fail
      refine HM.out.mono ?_
      rintro e w1 ⟨rfl, hb⟩
      have H1 := Lib.hid (H.out.below hb)
      have HB := Lib.hid hb
      clear hb H HM
      go_wp2_with fail
      have HW := pj_take H1.out a
      rw [HV.out] at HW
      refine HW.mono ?_
      clear HW HV
      rintro e w2 ⟨rfl, rfl⟩
      go_wp2_with fail
      refine (pj_goto H1.out a).mono ?_
      rintro e w3 ⟨rfl, hj, ho⟩
      have HF := Lib.hid (show PP (.int .i64 0) jb rb g ⟨s.t, s.e, s.n, a, 0, s.x, s.b, s.l⟩ w (.returned (.int .i64 0)) w3 from ⟨rfl, hj, (tri_below HB.out).trans ho⟩)
      clear hj ho
      go_wp2_with fail
      go_ret
      exact HF.out
  · have hj : entJ s a = s := if_neg he
    rw [hj]
    have hz : (entE s a == 0) = false := by simpa using he
    have hz2 : (entE s a != 0) = true := by simpa using he
    generalize entE s a = er at *
    clear he hj HX
    go_enter Tryz.func146, Tryz.ntmps146
    go_wp2_with fail
    refine HM.out.mono ?_
    rintro e w1 ⟨rfl, hb⟩
    have HF := Lib.hid (show PP (.int .i64 er) jb rb g s w (.returned (.int .i64 er)) w1 from ⟨rfl, H.out.below hb, tri_below hb⟩)
    clear hb H HM
    go_wp2_with fail
    go_ret
    exact HF.out
theorem pj_leave (h : PJ w jb rb g s) : Calls Tryz.prog 148 #[.pointer (some ⟨jb, 0, none⟩)] w (PP (.int .i64 (leaE s)) jb rb g (leaJ s) w) := by
  have HM := Lib.hid (pj_is h)
  have H := Lib.hid h
  clear h
  by_cases hc : s.c = 0
  · have hv : (s.c == 0) = true := by simpa using hc
    rw [show leaE s = 132 from if_pos hc, lea_same hc]
    clear hc
    go_enter Tryz.func148, Tryz.ntmps148
    go_wp2_with fail
    refine HM.out.mono ?_
    rintro e w1 ⟨rfl, hb⟩
    have c12 : w1.cell? ⟨jb, 12, none⟩ = some (.int .i64 s.c) := (H.out.below hb).cell 12
    have HF := Lib.hid (show PP (.int .i64 132) jb rb g s w (.returned (.int .i64 132)) w1 from ⟨rfl, H.out.below hb, tri_below hb⟩)
    clear hb H HM
    go_wp2_with fail
    go_ret
    exact HF.out
  · have hv : (s.c == 0) = false := by simpa using hc
    rw [show leaE s = 0 from if_neg hc, lea_out hc]
    clear hc
    go_enter Tryz.func148, Tryz.ntmps148
    go_wp2_with fail
    refine HM.out.mono ?_
    rintro e w1 ⟨rfl, hb⟩
    have H1 := Lib.hid (H.out.below hb)
    have HB := Lib.hid hb
    have c12 : w1.cell? ⟨jb, 12, none⟩ = some (.int .i64 s.c) := H1.out.cell 12
    clear hb H HM
    go_wp2_with fail
    clear c12
    refine (pj_goto H1.out 0).mono ?_
    rintro e w3 ⟨rfl, hj, ho⟩
    have HF := Lib.hid (show PP (.int .i64 0) jb rb g ⟨s.t, s.e, s.n, 0, 0, s.x, s.b, s.l⟩ w (.returned (.int .i64 0)) w3 from ⟨rfl, hj, (tri_below HB.out).trans ho⟩)
    clear hj ho
    go_wp2_with fail
    go_ret
    exact HF.out
set_option maxHeartbeats 1000000
theorem pj_long_no (h : PJ w jb rb g s) (q m : Int) (r : ByteArray) (h1 : s.c ≠ 1) (h2 : s.c ≠ 2) : Calls Tryz.prog 158 #[.pointer (some ⟨jb, 0, none⟩), .agg #[.int .i64 q, .int .i64 m, .string r]] w (VB (.bool false) w) := by
  have hb := below_al w (.cells #[.int .i64 q, .int .i64 m, .string r] 57)
  have h' := h.below hb
  have HB := Lib.hid hb
  have c5 : (w.alloc (.cells #[.int .i64 q, .int .i64 m, .string r] 57)).cell? ⟨jb, 5, none⟩ = some (.int .i64 (s.t 4)) := h'.cell 5
  have c7 : (w.alloc (.cells #[.int .i64 q, .int .i64 m, .string r] 57)).cell? ⟨jb, 7, none⟩ = some (.int .i64 (s.t 6)) := h'.cell 7
  have c12 : (w.alloc (.cells #[.int .i64 q, .int .i64 m, .string r] 57)).cell? ⟨jb, 12, none⟩ = some (.int .i64 s.c) := h'.cell 12
  have c13 : (w.alloc (.cells #[.int .i64 q, .int .i64 m, .string r] 57)).cell? ⟨jb, 13, none⟩ = some (.int .i64 s.k) := h'.cell 13
  obtain ⟨v0, v1, v2⟩ := (AB.new w q m r).cells
  have d1 : (s.c == 1) = false := by simpa using h1
  have d2 : (s.c == 2) = false := by simpa using h2
  clear h h' hb h1 h2
  generalize s.t 4 = t4 at *
  generalize s.t 6 = t6 at *
  generalize s.c = c at *
  generalize s.k = k at *
  go_enter Tryz.func158, Tryz.ntmps158
  go_wp2_with fail
  go_ret
  exact ⟨rfl, HB.out⟩
theorem pj_long_gyes (h : PJ w jb rb g s) (q m : Int) (r : ByteArray) (h2 : s.c = 2) (h3 : decide (s.t 6 ≤ s.k) = true) : Calls Tryz.prog 158 #[.pointer (some ⟨jb, 0, none⟩), .agg #[.int .i64 q, .int .i64 m, .string r]] w (VB (.bool true) w) := by
  have hb := below_al w (.cells #[.int .i64 q, .int .i64 m, .string r] 57)
  have h' := h.below hb
  have HB := Lib.hid hb
  have c5 : (w.alloc (.cells #[.int .i64 q, .int .i64 m, .string r] 57)).cell? ⟨jb, 5, none⟩ = some (.int .i64 (s.t 4)) := h'.cell 5
  have c7 : (w.alloc (.cells #[.int .i64 q, .int .i64 m, .string r] 57)).cell? ⟨jb, 7, none⟩ = some (.int .i64 (s.t 6)) := h'.cell 7
  have c12 : (w.alloc (.cells #[.int .i64 q, .int .i64 m, .string r] 57)).cell? ⟨jb, 12, none⟩ = some (.int .i64 s.c) := h'.cell 12
  have c13 : (w.alloc (.cells #[.int .i64 q, .int .i64 m, .string r] 57)).cell? ⟨jb, 13, none⟩ = some (.int .i64 s.k) := h'.cell 13
  obtain ⟨v0, v1, v2⟩ := (AB.new w q m r).cells
  have d2 : (s.c == 2) = true := by simpa using h2
  clear h h' hb h2
  generalize s.t 4 = t4 at *
  generalize s.t 6 = t6 at *
  generalize s.c = c at *
  generalize s.k = k at *
  go_enter Tryz.func158, Tryz.ntmps158
  go_wp2_with fail
  go_quiet (fail)
  go_wp2_with fail
  go_ret
  exact ⟨rfl, below_drewN HB.out _⟩
theorem pj_long_gno (h : PJ w jb rb g s) (q m : Int) (r : ByteArray) (h2 : s.c = 2) (h3 : decide (s.t 6 ≤ s.k) = false) : Calls Tryz.prog 158 #[.pointer (some ⟨jb, 0, none⟩), .agg #[.int .i64 q, .int .i64 m, .string r]] w (VB (.bool false) w) := by
  have hb := below_al w (.cells #[.int .i64 q, .int .i64 m, .string r] 57)
  have h' := h.below hb
  have HB := Lib.hid hb
  have c5 : (w.alloc (.cells #[.int .i64 q, .int .i64 m, .string r] 57)).cell? ⟨jb, 5, none⟩ = some (.int .i64 (s.t 4)) := h'.cell 5
  have c7 : (w.alloc (.cells #[.int .i64 q, .int .i64 m, .string r] 57)).cell? ⟨jb, 7, none⟩ = some (.int .i64 (s.t 6)) := h'.cell 7
  have c12 : (w.alloc (.cells #[.int .i64 q, .int .i64 m, .string r] 57)).cell? ⟨jb, 12, none⟩ = some (.int .i64 s.c) := h'.cell 12
  have c13 : (w.alloc (.cells #[.int .i64 q, .int .i64 m, .string r] 57)).cell? ⟨jb, 13, none⟩ = some (.int .i64 s.k) := h'.cell 13
  obtain ⟨v0, v1, v2⟩ := (AB.new w q m r).cells
  have d2 : (s.c == 2) = true := by simpa using h2
  clear h h' hb h2
  generalize s.t 4 = t4 at *
  generalize s.t 6 = t6 at *
  generalize s.c = c at *
  generalize s.k = k at *
  go_enter Tryz.func158, Tryz.ntmps158
  go_wp2_with fail
  go_quiet (fail)
  go_wp2_with fail
  go_ret
  exact ⟨rfl, below_drewN HB.out _⟩
theorem pj_long_lno (h : PJ w jb rb g s) (q m : Int) (r : ByteArray) (h1 : s.c = 1) (h3 : decide (s.t 4 ≤ s.k) = false) : Calls Tryz.prog 158 #[.pointer (some ⟨jb, 0, none⟩), .agg #[.int .i64 q, .int .i64 m, .string r]] w (VB (.bool false) w) := by
  have hb := below_al w (.cells #[.int .i64 q, .int .i64 m, .string r] 57)
  have h' := h.below hb
  have HB := Lib.hid hb
  have c5 : (w.alloc (.cells #[.int .i64 q, .int .i64 m, .string r] 57)).cell? ⟨jb, 5, none⟩ = some (.int .i64 (s.t 4)) := h'.cell 5
  have c7 : (w.alloc (.cells #[.int .i64 q, .int .i64 m, .string r] 57)).cell? ⟨jb, 7, none⟩ = some (.int .i64 (s.t 6)) := h'.cell 7
  have c12 : (w.alloc (.cells #[.int .i64 q, .int .i64 m, .string r] 57)).cell? ⟨jb, 12, none⟩ = some (.int .i64 s.c) := h'.cell 12
  have c13 : (w.alloc (.cells #[.int .i64 q, .int .i64 m, .string r] 57)).cell? ⟨jb, 13, none⟩ = some (.int .i64 s.k) := h'.cell 13
  obtain ⟨v0, v1, v2⟩ := (AB.new w q m r).cells
  have d1 : (s.c == 1) = true := by simpa using h1
  have d2 : (s.c == 2) = false := by simp; omega
  clear h h' hb h1
  generalize s.t 4 = t4 at *
  generalize s.t 6 = t6 at *
  generalize s.c = c at *
  generalize s.k = k at *
  go_enter Tryz.func158, Tryz.ntmps158
  go_wp2_with fail
  go_quiet (fail)
  go_wp2_with fail
  go_ret
  exact ⟨rfl, below_drewN HB.out _⟩
theorem pj_long_ltrue (h : PJ w jb rb g s) (q m : Int) (r : ByteArray) (h1 : s.c = 1) (h3 : decide (s.t 4 ≤ s.k) = true) (h4 : (q == 1) = true) : Calls Tryz.prog 158 #[.pointer (some ⟨jb, 0, none⟩), .agg #[.int .i64 q, .int .i64 m, .string r]] w (VB (.bool true) w) := by
  have hb := below_al w (.cells #[.int .i64 q, .int .i64 m, .string r] 57)
  have h' := h.below hb
  have HB := Lib.hid hb
  have c5 : (w.alloc (.cells #[.int .i64 q, .int .i64 m, .string r] 57)).cell? ⟨jb, 5, none⟩ = some (.int .i64 (s.t 4)) := h'.cell 5
  have c7 : (w.alloc (.cells #[.int .i64 q, .int .i64 m, .string r] 57)).cell? ⟨jb, 7, none⟩ = some (.int .i64 (s.t 6)) := h'.cell 7
  have c12 : (w.alloc (.cells #[.int .i64 q, .int .i64 m, .string r] 57)).cell? ⟨jb, 12, none⟩ = some (.int .i64 s.c) := h'.cell 12
  have c13 : (w.alloc (.cells #[.int .i64 q, .int .i64 m, .string r] 57)).cell? ⟨jb, 13, none⟩ = some (.int .i64 s.k) := h'.cell 13
  obtain ⟨v0, v1, v2⟩ := (AB.new w q m r).cells
  have d1 : (s.c == 1) = true := by simpa using h1
  have d2 : (s.c == 2) = false := by simp; omega
  clear h h' hb h1
  generalize s.t 4 = t4 at *
  generalize s.t 6 = t6 at *
  generalize s.c = c at *
  generalize s.k = k at *
  go_enter Tryz.func158, Tryz.ntmps158
  go_wp2_with fail
  go_quiet (fail)
  go_wp2_with fail
  go_ret
  exact ⟨rfl, below_drewN HB.out _⟩
theorem pj_long_lfalse (h : PJ w jb rb g s) (q m : Int) (r : ByteArray) (h1 : s.c = 1) (h3 : decide (s.t 4 ≤ s.k) = true) (h4 : (q == 1) = false) : Calls Tryz.prog 158 #[.pointer (some ⟨jb, 0, none⟩), .agg #[.int .i64 q, .int .i64 m, .string r]] w (VB (.bool false) w) := by
  have hb := below_al w (.cells #[.int .i64 q, .int .i64 m, .string r] 57)
  have h' := h.below hb
  have HB := Lib.hid hb
  have c5 : (w.alloc (.cells #[.int .i64 q, .int .i64 m, .string r] 57)).cell? ⟨jb, 5, none⟩ = some (.int .i64 (s.t 4)) := h'.cell 5
  have c7 : (w.alloc (.cells #[.int .i64 q, .int .i64 m, .string r] 57)).cell? ⟨jb, 7, none⟩ = some (.int .i64 (s.t 6)) := h'.cell 7
  have c12 : (w.alloc (.cells #[.int .i64 q, .int .i64 m, .string r] 57)).cell? ⟨jb, 12, none⟩ = some (.int .i64 s.c) := h'.cell 12
  have c13 : (w.alloc (.cells #[.int .i64 q, .int .i64 m, .string r] 57)).cell? ⟨jb, 13, none⟩ = some (.int .i64 s.k) := h'.cell 13
  obtain ⟨v0, v1, v2⟩ := (AB.new w q m r).cells
  have d1 : (s.c == 1) = true := by simpa using h1
  have d2 : (s.c == 2) = false := by simp; omega
  clear h h' hb h1
  generalize s.t 4 = t4 at *
  generalize s.t 6 = t6 at *
  generalize s.c = c at *
  generalize s.k = k at *
  go_enter Tryz.func158, Tryz.ntmps158
  go_wp2_with fail
  go_quiet (fail)
  go_wp2_with fail
  go_ret
  exact ⟨rfl, below_drewN HB.out _⟩
theorem pj_long (h : PJ w jb rb g s) (q m : Int) (r : ByteArray) : Calls Tryz.prog 158 #[.pointer (some ⟨jb, 0, none⟩), .agg #[.int .i64 q, .int .i64 m, .string r]] w (VB (.bool (decide (s.c = 2 ∧ s.t 6 ≤ s.k ∨ s.c = 1 ∧ s.t 4 ≤ s.k ∧ q = 1))) w) := by
  by_cases h2 : s.c = 2
  · by_cases h3 : s.t 6 ≤ s.k
    · rw [show decide (s.c = 2 ∧ s.t 6 ≤ s.k ∨ s.c = 1 ∧ s.t 4 ≤ s.k ∧ q = 1) = true from by simp; omega]
      exact pj_long_gyes h q m r h2 (by simpa using h3)
    · rw [show decide (s.c = 2 ∧ s.t 6 ≤ s.k ∨ s.c = 1 ∧ s.t 4 ≤ s.k ∧ q = 1) = false from by simp; omega]
      exact pj_long_gno h q m r h2 (by simpa using h3)
  · by_cases h1 : s.c = 1
    · by_cases h3 : s.t 4 ≤ s.k
      · by_cases h4 : q = 1
        · rw [show decide (s.c = 2 ∧ s.t 6 ≤ s.k ∨ s.c = 1 ∧ s.t 4 ≤ s.k ∧ q = 1) = true from by simp; omega]
          exact pj_long_ltrue h q m r h1 (by simpa using h3) (by simpa using h4)
        · rw [show decide (s.c = 2 ∧ s.t 6 ≤ s.k ∨ s.c = 1 ∧ s.t 4 ≤ s.k ∧ q = 1) = false from by simp; omega]
          exact pj_long_lfalse h q m r h1 (by simpa using h3) (by simpa using h4)
      · rw [show decide (s.c = 2 ∧ s.t 6 ≤ s.k ∨ s.c = 1 ∧ s.t 4 ≤ s.k ∧ q = 1) = false from by simp; omega]
        exact pj_long_lno h q m r h1 (by simpa using h3)
    · rw [show decide (s.c = 2 ∧ s.t 6 ≤ s.k ∨ s.c = 1 ∧ s.t 4 ≤ s.k ∧ q = 1) = false from by simp; omega]
      exact pj_long_no h q m r h1 h2
end
end Go.Proofs.YtkkmfpllgjoceaaGreat

namespace Go.Proofs.YtkkmfpllgjoceaaGreat
open Go.RowKit Go.Sort Ac Jo
set_option linter.unusedVariables false
set_option maxRecDepth 100000

section
variable {w : World} {jb rb g : Nat} {s : Jb}
set_option maxHeartbeats 2000000 in
theorem pf_none (h : PJ w jb rb g s) (hi : Inv s) (now : Int) {k n : Int} {t : ByteArray} (hn : nv s.l = .tuple #[.agg #[.int .i64 k, .int .i64 n, .string t], .bool false]) : Calls Tryz.prog 94 #[.pointer (some ⟨jb, 0, none⟩), .int .i64 now] w (VB (.int .i64 0) w) := by
  have HX : Hid (Calls Tryz.prog 98 #[.pointer (some ⟨jb, 0, none⟩)] w (VB (.tuple #[.agg #[.int .i64 k, .int .i64 n, .string t], .bool false]) w)) := by have q := pj_next h; rw [hn] at q; exact q
  have H := Lib.hid h
  have HG := Lib.hid hi.gd
  have HLB := Lib.hid (show 0 ≤ left s.l ∧ left s.l ≤ 2048 by have q1 := left_bd hi.gd.all; have q2 := hi.gd.len; omega)
  clear h hi hn
  go_enter Tryz.func94, Tryz.ntmps94
  go_wp2_with fail
  refine HX.out.mono ?_
  rintro e w1 ⟨rfl, hb⟩
  have hb2 := hb.alloc hb.size (.cells #[.int .i64 k, .int .i64 n, .string t] 57)
  have hj := H.out.below hb2
  have HB := Lib.hid hb2
  have c9 : (w1.alloc (.cells #[.int .i64 k, .int .i64 n, .string t] 57)).cell? ⟨jb, 9, none⟩ = some (.int .i64 s.e) := hj.cell 9
  have HV := Lib.hid (AB.new w1 k n t)
  have HJ := Lib.hid hj
  clear hb hb2 hj HX H
  go_wp2_with fail
  go_ret
  exact ⟨rfl, HB.out⟩
set_option maxHeartbeats 2000000 in
theorem pf_late (h : PJ w jb rb g s) (hi : Inv s) (now : Int) {k n : Int} {t : ByteArray} (hn : nv s.l = .tuple #[.agg #[.int .i64 k, .int .i64 n, .string t], .bool true]) (h1 : s.e ≤ now) : Calls Tryz.prog 94 #[.pointer (some ⟨jb, 0, none⟩), .int .i64 now] w (VB (.int .i64 3) w) := by
  have HX : Hid (Calls Tryz.prog 98 #[.pointer (some ⟨jb, 0, none⟩)] w (VB (.tuple #[.agg #[.int .i64 k, .int .i64 n, .string t], .bool true]) w)) := by have q := pj_next h; rw [hn] at q; exact q
  have H := Lib.hid h
  have HG := Lib.hid hi.gd
  have HLB := Lib.hid (show 0 ≤ left s.l ∧ left s.l ≤ 2048 by have q1 := left_bd hi.gd.all; have q2 := hi.gd.len; omega)
  have d1 : decide (s.e ≤ now) = true := by simpa using h1
  clear h1
  clear h hi hn
  go_enter Tryz.func94, Tryz.ntmps94
  go_wp2_with fail
  refine HX.out.mono ?_
  rintro e w1 ⟨rfl, hb⟩
  have hb2 := hb.alloc hb.size (.cells #[.int .i64 k, .int .i64 n, .string t] 57)
  have hj := H.out.below hb2
  have HB := Lib.hid hb2
  have c9 : (w1.alloc (.cells #[.int .i64 k, .int .i64 n, .string t] 57)).cell? ⟨jb, 9, none⟩ = some (.int .i64 s.e) := hj.cell 9
  have HV := Lib.hid (AB.new w1 k n t)
  have HJ := Lib.hid hj
  clear hb hb2 hj HX H
  go_wp2_with fail
  go_ret
  exact ⟨rfl, HB.out⟩
set_option maxHeartbeats 2000000 in
theorem pf_over (h : PJ w jb rb g s) (hi : Inv s) (now : Int) {k n : Int} {t : ByteArray} (hn : nv s.l = .tuple #[.agg #[.int .i64 k, .int .i64 n, .string t], .bool true]) (h1 : now < s.e) (h2 : s.t 2 ≤ s.n) (h3 : 0 < left s.l) : Calls Tryz.prog 94 #[.pointer (some ⟨jb, 0, none⟩), .int .i64 now] w (VB (.int .i64 1) w) := by
  have HX : Hid (Calls Tryz.prog 98 #[.pointer (some ⟨jb, 0, none⟩)] w (VB (.tuple #[.agg #[.int .i64 k, .int .i64 n, .string t], .bool true]) w)) := by have q := pj_next h; rw [hn] at q; exact q
  have H := Lib.hid h
  have HG := Lib.hid hi.gd
  have HLB := Lib.hid (show 0 ≤ left s.l ∧ left s.l ≤ 2048 by have q1 := left_bd hi.gd.all; have q2 := hi.gd.len; omega)
  have d1 : decide (s.e ≤ now) = false := by simp; omega
  clear h1
  have d2 : decide (s.t 2 ≤ s.n) = true := by simpa using h2
  have d3 : decide (0 < left s.l) = true := by simpa using h3
  clear h2 h3
  clear h hi hn
  go_enter Tryz.func94, Tryz.ntmps94
  go_wp2_with fail
  refine HX.out.mono ?_
  rintro e w1 ⟨rfl, hb⟩
  have hb2 := hb.alloc hb.size (.cells #[.int .i64 k, .int .i64 n, .string t] 57)
  have hj := H.out.below hb2
  have HB := Lib.hid hb2
  have c9 : (w1.alloc (.cells #[.int .i64 k, .int .i64 n, .string t] 57)).cell? ⟨jb, 9, none⟩ = some (.int .i64 s.e) := hj.cell 9
  have HV := Lib.hid (AB.new w1 k n t)
  have HJ := Lib.hid hj
  clear hb hb2 hj HX H
  go_wp2_with fail
  clear c9
  have c11 : (w1.alloc (.cells #[.int .i64 k, .int .i64 n, .string t] 57)).cell? ⟨jb, 11, none⟩ = some (.int .i64 s.n) := HJ.out.cell 11
  have c3 : (w1.alloc (.cells #[.int .i64 k, .int .i64 n, .string t] 57)).cell? ⟨jb, 3, none⟩ = some (.int .i64 (s.t 2)) := HJ.out.cell 3
  have c0 : (w1.alloc (.cells #[.int .i64 k, .int .i64 n, .string t] 57)).cell? ⟨jb, 0, none⟩ = some (.pointer (some ⟨rb, 0, none⟩)) := HJ.out.cell 0
  generalize w1.alloc (.cells #[.int .i64 k, .int .i64 n, .string t] 57) = W at *
  generalize w1.heap.size = vb at *
  have k0 := cell_regrown c0; have k3 := cell_regrown c3; have k11 := cell_regrown c11
  have HGr : ∀ d os, PJ (grow (redrawn W d) os) jb rb g s := fun d os => HJ.out.below (below_regrown W d os)
  have C1 := Lib.hid (fun d os => Calls.regrown_of (left_any (HGr d os).rw HG.out))
  have mixed : Tryz.prog.follows .mixedOrders = true := by kernel_rfl
  clear HGr c0 c3 c11
  generalize s.t 2 = t2 at *
  generalize s.n = sn at *
  generalize left s.l = lf at *
  refine wp_region_quiet_below (by assumption) (by kernel_rfl) ?_
  repeat (quiet_step (first | (go_at_call 157; exact C1.out _ _)))
  refine wpQuiet_nil ?_
  intro _ hw'
  obtain ⟨⟨dq, osq⟩, hw''⟩ := hw'
  subst hw''
  have HF := Lib.hid (chn HB.out (below_regrown W dq osq))
  go_wp2_with fail
  go_ret
  exact ⟨rfl, HF.out⟩
set_option maxHeartbeats 2000000 in
theorem pf_lefttrue (h : PJ w jb rb g s) (hi : Inv s) (now : Int) {k n : Int} {t : ByteArray} (hn : nv s.l = .tuple #[.agg #[.int .i64 k, .int .i64 n, .string t], .bool true]) (h1 : now < s.e) (h2 : s.t 2 ≤ s.n) (h3 : ¬ 0 < left s.l) (hr : decide (s.c = 2 ∧ s.t 6 ≤ s.k ∨ s.c = 1 ∧ s.t 4 ≤ s.k ∧ k = 1) = true) : Calls Tryz.prog 94 #[.pointer (some ⟨jb, 0, none⟩), .int .i64 now] w (VB (.int .i64 2) w) := by
  have HX : Hid (Calls Tryz.prog 98 #[.pointer (some ⟨jb, 0, none⟩)] w (VB (.tuple #[.agg #[.int .i64 k, .int .i64 n, .string t], .bool true]) w)) := by have q := pj_next h; rw [hn] at q; exact q
  have H := Lib.hid h
  have HG := Lib.hid hi.gd
  have HLB := Lib.hid (show 0 ≤ left s.l ∧ left s.l ≤ 2048 by have q1 := left_bd hi.gd.all; have q2 := hi.gd.len; omega)
  have d1 : decide (s.e ≤ now) = false := by simp; omega
  clear h1
  have HR := Lib.hid hr
  have d2 : decide (s.t 2 ≤ s.n) = true := by simpa using h2
  have d3 : decide (0 < left s.l) = false := by simpa using h3
  clear h2 h3 hr
  clear h hi hn
  go_enter Tryz.func94, Tryz.ntmps94
  go_wp2_with fail
  refine HX.out.mono ?_
  rintro e w1 ⟨rfl, hb⟩
  have hb2 := hb.alloc hb.size (.cells #[.int .i64 k, .int .i64 n, .string t] 57)
  have hj := H.out.below hb2
  have HB := Lib.hid hb2
  have c9 : (w1.alloc (.cells #[.int .i64 k, .int .i64 n, .string t] 57)).cell? ⟨jb, 9, none⟩ = some (.int .i64 s.e) := hj.cell 9
  have HV := Lib.hid (AB.new w1 k n t)
  have HJ := Lib.hid hj
  clear hb hb2 hj HX H
  go_wp2_with fail
  clear c9
  have c11 : (w1.alloc (.cells #[.int .i64 k, .int .i64 n, .string t] 57)).cell? ⟨jb, 11, none⟩ = some (.int .i64 s.n) := HJ.out.cell 11
  have c3 : (w1.alloc (.cells #[.int .i64 k, .int .i64 n, .string t] 57)).cell? ⟨jb, 3, none⟩ = some (.int .i64 (s.t 2)) := HJ.out.cell 3
  have c0 : (w1.alloc (.cells #[.int .i64 k, .int .i64 n, .string t] 57)).cell? ⟨jb, 0, none⟩ = some (.pointer (some ⟨rb, 0, none⟩)) := HJ.out.cell 0
  generalize w1.alloc (.cells #[.int .i64 k, .int .i64 n, .string t] 57) = W at *
  generalize w1.heap.size = vb at *
  have k0 := cell_regrown c0; have k3 := cell_regrown c3; have k11 := cell_regrown c11
  have HGr : ∀ d os, PJ (grow (redrawn W d) os) jb rb g s := fun d os => HJ.out.below (below_regrown W d os)
  have C1 := Lib.hid (fun d os => Calls.regrown_of (left_any (HGr d os).rw HG.out))
  have mixed : Tryz.prog.follows .mixedOrders = true := by kernel_rfl
  clear HGr c0 c3 c11
  generalize s.t 2 = t2 at *
  generalize s.n = sn at *
  generalize left s.l = lf at *
  refine wp_region_quiet_below (by assumption) (by kernel_rfl) ?_
  repeat (quiet_step (first | (go_at_call 157; exact C1.out _ _)))
  refine wpQuiet_nil ?_
  intro _ hw'
  obtain ⟨⟨dq, osq⟩, hw''⟩ := hw'
  subst hw''
  have HF := Lib.hid (chn HB.out (below_regrown W dq osq))
  have HJ2 := Lib.hid (HJ.out.below (below_regrown W dq osq))
  have HV2 := Lib.hid (HV.out.below (below_regrown W dq osq))
  generalize grow (redrawn W dq) osq = Z at *
  obtain ⟨v0, v1, v2⟩ := HV2.out.cells
  clear HJ HV HB k0 k3 k11 C1
  go_wp2_with fail
  have HL := pj_long HJ2.out k n t
  rw [HR.out] at HL
  refine HL.mono ?_
  clear HL HR
  rintro e w9 ⟨rfl, hb⟩
  have HF2 := Lib.hid (chn HF.out hb)
  clear hb HF v0 v1 v2
  go_wp2_with fail
  go_ret
  exact ⟨rfl, HF2.out⟩
set_option maxHeartbeats 2000000 in
theorem pf_leftfalse (h : PJ w jb rb g s) (hi : Inv s) (now : Int) {k n : Int} {t : ByteArray} (hn : nv s.l = .tuple #[.agg #[.int .i64 k, .int .i64 n, .string t], .bool true]) (h1 : now < s.e) (h2 : s.t 2 ≤ s.n) (h3 : ¬ 0 < left s.l) (hr : decide (s.c = 2 ∧ s.t 6 ≤ s.k ∨ s.c = 1 ∧ s.t 4 ≤ s.k ∧ k = 1) = false) : Calls Tryz.prog 94 #[.pointer (some ⟨jb, 0, none⟩), .int .i64 now] w (VB (.int .i64 0) w) := by
  have HX : Hid (Calls Tryz.prog 98 #[.pointer (some ⟨jb, 0, none⟩)] w (VB (.tuple #[.agg #[.int .i64 k, .int .i64 n, .string t], .bool true]) w)) := by have q := pj_next h; rw [hn] at q; exact q
  have H := Lib.hid h
  have HG := Lib.hid hi.gd
  have HLB := Lib.hid (show 0 ≤ left s.l ∧ left s.l ≤ 2048 by have q1 := left_bd hi.gd.all; have q2 := hi.gd.len; omega)
  have d1 : decide (s.e ≤ now) = false := by simp; omega
  clear h1
  have HR := Lib.hid hr
  have d2 : decide (s.t 2 ≤ s.n) = true := by simpa using h2
  have d3 : decide (0 < left s.l) = false := by simpa using h3
  clear h2 h3 hr
  clear h hi hn
  go_enter Tryz.func94, Tryz.ntmps94
  go_wp2_with fail
  refine HX.out.mono ?_
  rintro e w1 ⟨rfl, hb⟩
  have hb2 := hb.alloc hb.size (.cells #[.int .i64 k, .int .i64 n, .string t] 57)
  have hj := H.out.below hb2
  have HB := Lib.hid hb2
  have c9 : (w1.alloc (.cells #[.int .i64 k, .int .i64 n, .string t] 57)).cell? ⟨jb, 9, none⟩ = some (.int .i64 s.e) := hj.cell 9
  have HV := Lib.hid (AB.new w1 k n t)
  have HJ := Lib.hid hj
  clear hb hb2 hj HX H
  go_wp2_with fail
  clear c9
  have c11 : (w1.alloc (.cells #[.int .i64 k, .int .i64 n, .string t] 57)).cell? ⟨jb, 11, none⟩ = some (.int .i64 s.n) := HJ.out.cell 11
  have c3 : (w1.alloc (.cells #[.int .i64 k, .int .i64 n, .string t] 57)).cell? ⟨jb, 3, none⟩ = some (.int .i64 (s.t 2)) := HJ.out.cell 3
  have c0 : (w1.alloc (.cells #[.int .i64 k, .int .i64 n, .string t] 57)).cell? ⟨jb, 0, none⟩ = some (.pointer (some ⟨rb, 0, none⟩)) := HJ.out.cell 0
  generalize w1.alloc (.cells #[.int .i64 k, .int .i64 n, .string t] 57) = W at *
  generalize w1.heap.size = vb at *
  have k0 := cell_regrown c0; have k3 := cell_regrown c3; have k11 := cell_regrown c11
  have HGr : ∀ d os, PJ (grow (redrawn W d) os) jb rb g s := fun d os => HJ.out.below (below_regrown W d os)
  have C1 := Lib.hid (fun d os => Calls.regrown_of (left_any (HGr d os).rw HG.out))
  have mixed : Tryz.prog.follows .mixedOrders = true := by kernel_rfl
  clear HGr c0 c3 c11
  generalize s.t 2 = t2 at *
  generalize s.n = sn at *
  generalize left s.l = lf at *
  refine wp_region_quiet_below (by assumption) (by kernel_rfl) ?_
  repeat (quiet_step (first | (go_at_call 157; exact C1.out _ _)))
  refine wpQuiet_nil ?_
  intro _ hw'
  obtain ⟨⟨dq, osq⟩, hw''⟩ := hw'
  subst hw''
  have HF := Lib.hid (chn HB.out (below_regrown W dq osq))
  have HJ2 := Lib.hid (HJ.out.below (below_regrown W dq osq))
  have HV2 := Lib.hid (HV.out.below (below_regrown W dq osq))
  generalize grow (redrawn W dq) osq = Z at *
  obtain ⟨v0, v1, v2⟩ := HV2.out.cells
  clear HJ HV HB k0 k3 k11 C1
  go_wp2_with fail
  have HL := pj_long HJ2.out k n t
  rw [HR.out] at HL
  refine HL.mono ?_
  clear HL HR
  rintro e w9 ⟨rfl, hb⟩
  have HF2 := Lib.hid (chn HF.out hb)
  clear hb HF v0 v1 v2
  go_wp2_with fail
  go_ret
  exact ⟨rfl, HF2.out⟩
set_option maxHeartbeats 2000000 in
theorem pf_notrue (h : PJ w jb rb g s) (hi : Inv s) (now : Int) {k n : Int} {t : ByteArray} (hn : nv s.l = .tuple #[.agg #[.int .i64 k, .int .i64 n, .string t], .bool true]) (h1 : now < s.e) (h2 : ¬ s.t 2 ≤ s.n) (hr : decide (s.c = 2 ∧ s.t 6 ≤ s.k ∨ s.c = 1 ∧ s.t 4 ≤ s.k ∧ k = 1) = true) : Calls Tryz.prog 94 #[.pointer (some ⟨jb, 0, none⟩), .int .i64 now] w (VB (.int .i64 2) w) := by
  have HX : Hid (Calls Tryz.prog 98 #[.pointer (some ⟨jb, 0, none⟩)] w (VB (.tuple #[.agg #[.int .i64 k, .int .i64 n, .string t], .bool true]) w)) := by have q := pj_next h; rw [hn] at q; exact q
  have H := Lib.hid h
  have HG := Lib.hid hi.gd
  have HLB := Lib.hid (show 0 ≤ left s.l ∧ left s.l ≤ 2048 by have q1 := left_bd hi.gd.all; have q2 := hi.gd.len; omega)
  have d1 : decide (s.e ≤ now) = false := by simp; omega
  clear h1
  have HR := Lib.hid hr
  have d2 : decide (s.t 2 ≤ s.n) = false := by simpa using h2
  clear h2 hr
  clear h hi hn
  go_enter Tryz.func94, Tryz.ntmps94
  go_wp2_with fail
  refine HX.out.mono ?_
  rintro e w1 ⟨rfl, hb⟩
  have hb2 := hb.alloc hb.size (.cells #[.int .i64 k, .int .i64 n, .string t] 57)
  have hj := H.out.below hb2
  have HB := Lib.hid hb2
  have c9 : (w1.alloc (.cells #[.int .i64 k, .int .i64 n, .string t] 57)).cell? ⟨jb, 9, none⟩ = some (.int .i64 s.e) := hj.cell 9
  have HV := Lib.hid (AB.new w1 k n t)
  have HJ := Lib.hid hj
  clear hb hb2 hj HX H
  go_wp2_with fail
  clear c9
  have c11 : (w1.alloc (.cells #[.int .i64 k, .int .i64 n, .string t] 57)).cell? ⟨jb, 11, none⟩ = some (.int .i64 s.n) := HJ.out.cell 11
  have c3 : (w1.alloc (.cells #[.int .i64 k, .int .i64 n, .string t] 57)).cell? ⟨jb, 3, none⟩ = some (.int .i64 (s.t 2)) := HJ.out.cell 3
  have c0 : (w1.alloc (.cells #[.int .i64 k, .int .i64 n, .string t] 57)).cell? ⟨jb, 0, none⟩ = some (.pointer (some ⟨rb, 0, none⟩)) := HJ.out.cell 0
  generalize w1.alloc (.cells #[.int .i64 k, .int .i64 n, .string t] 57) = W at *
  generalize w1.heap.size = vb at *
  go_quiet (fail)
  have hbw : Below W.heap.size W (W.drewN nq) := below_drewN (Below.refl _ W) nq
  have HF := Lib.hid (chn HB.out hbw)
  generalize s.t 2 = t2 at *
  generalize s.n = sn at *
  have HJ2 := Lib.hid (HJ.out.below hbw)
  have HV2 := Lib.hid (HV.out.below hbw)
  generalize W.drewN nq = Z at *
  obtain ⟨v0, v1, v2⟩ := HV2.out.cells
  clear HJ HV HB hbw c0 c3 c11
  go_wp2_with fail
  have HL := pj_long HJ2.out k n t
  rw [HR.out] at HL
  refine HL.mono ?_
  clear HL HR
  rintro e w9 ⟨rfl, hb⟩
  have HF2 := Lib.hid (chn HF.out hb)
  clear hb HF v0 v1 v2
  go_wp2_with fail
  go_ret
  exact ⟨rfl, HF2.out⟩
set_option maxHeartbeats 2000000 in
theorem pf_nofalse (h : PJ w jb rb g s) (hi : Inv s) (now : Int) {k n : Int} {t : ByteArray} (hn : nv s.l = .tuple #[.agg #[.int .i64 k, .int .i64 n, .string t], .bool true]) (h1 : now < s.e) (h2 : ¬ s.t 2 ≤ s.n) (hr : decide (s.c = 2 ∧ s.t 6 ≤ s.k ∨ s.c = 1 ∧ s.t 4 ≤ s.k ∧ k = 1) = false) : Calls Tryz.prog 94 #[.pointer (some ⟨jb, 0, none⟩), .int .i64 now] w (VB (.int .i64 0) w) := by
  have HX : Hid (Calls Tryz.prog 98 #[.pointer (some ⟨jb, 0, none⟩)] w (VB (.tuple #[.agg #[.int .i64 k, .int .i64 n, .string t], .bool true]) w)) := by have q := pj_next h; rw [hn] at q; exact q
  have H := Lib.hid h
  have HG := Lib.hid hi.gd
  have HLB := Lib.hid (show 0 ≤ left s.l ∧ left s.l ≤ 2048 by have q1 := left_bd hi.gd.all; have q2 := hi.gd.len; omega)
  have d1 : decide (s.e ≤ now) = false := by simp; omega
  clear h1
  have HR := Lib.hid hr
  have d2 : decide (s.t 2 ≤ s.n) = false := by simpa using h2
  clear h2 hr
  clear h hi hn
  go_enter Tryz.func94, Tryz.ntmps94
  go_wp2_with fail
  refine HX.out.mono ?_
  rintro e w1 ⟨rfl, hb⟩
  have hb2 := hb.alloc hb.size (.cells #[.int .i64 k, .int .i64 n, .string t] 57)
  have hj := H.out.below hb2
  have HB := Lib.hid hb2
  have c9 : (w1.alloc (.cells #[.int .i64 k, .int .i64 n, .string t] 57)).cell? ⟨jb, 9, none⟩ = some (.int .i64 s.e) := hj.cell 9
  have HV := Lib.hid (AB.new w1 k n t)
  have HJ := Lib.hid hj
  clear hb hb2 hj HX H
  go_wp2_with fail
  clear c9
  have c11 : (w1.alloc (.cells #[.int .i64 k, .int .i64 n, .string t] 57)).cell? ⟨jb, 11, none⟩ = some (.int .i64 s.n) := HJ.out.cell 11
  have c3 : (w1.alloc (.cells #[.int .i64 k, .int .i64 n, .string t] 57)).cell? ⟨jb, 3, none⟩ = some (.int .i64 (s.t 2)) := HJ.out.cell 3
  have c0 : (w1.alloc (.cells #[.int .i64 k, .int .i64 n, .string t] 57)).cell? ⟨jb, 0, none⟩ = some (.pointer (some ⟨rb, 0, none⟩)) := HJ.out.cell 0
  generalize w1.alloc (.cells #[.int .i64 k, .int .i64 n, .string t] 57) = W at *
  generalize w1.heap.size = vb at *
  go_quiet (fail)
  have hbw : Below W.heap.size W (W.drewN nq) := below_drewN (Below.refl _ W) nq
  have HF := Lib.hid (chn HB.out hbw)
  generalize s.t 2 = t2 at *
  generalize s.n = sn at *
  have HJ2 := Lib.hid (HJ.out.below hbw)
  have HV2 := Lib.hid (HV.out.below hbw)
  generalize W.drewN nq = Z at *
  obtain ⟨v0, v1, v2⟩ := HV2.out.cells
  clear HJ HV HB hbw c0 c3 c11
  go_wp2_with fail
  have HL := pj_long HJ2.out k n t
  rw [HR.out] at HL
  refine HL.mono ?_
  clear HL HR
  rintro e w9 ⟨rfl, hb⟩
  have HF2 := Lib.hid (chn HF.out hb)
  clear hb HF v0 v1 v2
  go_wp2_with fail
  go_ret
  exact ⟨rfl, HF2.out⟩
theorem pj_fault (h : PJ w jb rb g s) (hi : Inv s) (now : Int) : Calls Tryz.prog 94 #[.pointer (some ⟨jb, 0, none⟩), .int .i64 now] w (VB (.int .i64 (fau s now)) w) := by
  obtain ⟨k, n, t, b, hx, hk⟩ : ∃ (k n : Int) (t : ByteArray) (b : Bool), nv s.l = .tuple #[.agg #[.int .i64 k, .int .i64 n, .string t], .bool b] ∧ (nxt s.l).k = k := ⟨_, _, _, _, rfl, rfl⟩
  have hb : isn s.l = b := by
    have q := hx
    unfold nv at q
    simp only [Value.tuple.injEq] at q
    have q2 := congrArg (fun a : Array Value => a[1]?) q
    simpa using q2
  unfold fau
  cases b with
  | false =>
    rw [if_pos (by cases hl : s.l with | nil => rfl | cons x y => rw [hl] at hb; exact absurd hb (by simp [isn]))]
    exact pf_none h hi now hx
  | true =>
    rw [if_neg (by intro hl; rw [hl] at hb; exact absurd hb (by simp [isn]))]
    split
    · rename_i q
      exact pf_late h hi now hx q
    rename_i q1
    split
    · rename_i q
      exact pf_over h hi now hx (by omega) q.1 q.2
    rename_i q2
    by_cases hr : s.c = 2 ∧ s.t 6 ≤ s.k ∨ s.c = 1 ∧ s.t 4 ≤ s.k ∧ k = 1
    · have hv : (if s.c = 2 ∧ s.t 6 ≤ s.k then 2 else if s.c = 1 ∧ s.t 4 ≤ s.k ∧ (nxt s.l).k = 1 then 2 else 0 : Int) = 2 := by
        rw [hk]
        rcases hr with hr | hr
        · rw [if_pos hr]
        · split
          · rfl
          · rfl
      rw [hv]
      by_cases h2 : s.t 2 ≤ s.n
      · exact pf_lefttrue h hi now hx (by omega) h2 (fun q => q2 ⟨h2, q⟩) (by simpa using hr)
      · exact pf_notrue h hi now hx (by omega) h2 (by simpa using hr)
    · have hv : (if s.c = 2 ∧ s.t 6 ≤ s.k then 2 else if s.c = 1 ∧ s.t 4 ≤ s.k ∧ (nxt s.l).k = 1 then 2 else 0 : Int) = 0 := by
        rw [hk, if_neg (fun q => hr (Or.inl q)), if_neg (fun q => hr (Or.inr q))]
      rw [hv]
      by_cases h2 : s.t 2 ≤ s.n
      · exact pf_leftfalse h hi now hx (by omega) h2 (fun q => q2 ⟨h2, q⟩) (decide_eq_false hr)
      · exact pf_nofalse h hi now hx (by omega) h2 (decide_eq_false hr)
end
end Go.Proofs.YtkkmfpllgjoceaaGreat

namespace Go.Proofs.YtkkmfpllgjoceaaGreat
open Go.RowKit Go.Sort Ac Jo
set_option linter.unusedVariables false
set_option maxRecDepth 100000

theorem within_any (x a b : Int) (w : World) : Calls Tryz.prog 120 #[.int .i64 x, .int .i64 a, .int .i64 b] w (IsB (decide (a ≤ x) && decide (x ≤ b)) w) := by
  cases h0 : decide (a ≤ x) with
  | false =>
    go_enter Tryz.func120, Tryz.ntmps120
    go_wp2_with fail
    go_ret
    exact ⟨rfl, rfl⟩
  | true =>
    go_enter Tryz.func120, Tryz.ntmps120
    go_wp2_with fail
    go_ret
    exact ⟨rfl, rfl⟩
theorem tok_three (t : Nat → Int) : tok t = ((decide (1 ≤ t 0) && decide (t 0 ≤ 64)) && ((decide (1 ≤ t 1) && decide (t 1 ≤ t 0)) && (decide (1 ≤ t 2) && decide (t 2 ≤ t 1)))) := by
  unfold Jo.tok
  simp only [Bool.and_assoc]
set_option maxHeartbeats 2000000 in
theorem tm_one {w : World} {g : Nat} {t : Nat → Int} (h : TB1 w g t) : Calls Tryz.prog 64 #[.slice (some ⟨g, 0, none⟩) 1 1] w (YB (tok t) w) := by
  have c0 : w.cell? ⟨g, 0, none⟩ = some (.int .i64 (t 0)) := cell_of_row _ _ 0 _ _ _ h
  have c1 : w.cell? ⟨g, 0 + 1, none⟩ = some (.int .i64 (t 1)) := cell_of_row _ _ 1 _ _ _ h
  have c2 : w.cell? ⟨g, 0 + 2, none⟩ = some (.int .i64 (t 2)) := cell_of_row _ _ 2 _ _ _ h
  have c3 : w.cell? ⟨g, 0 + 3, none⟩ = some (.int .i64 (t 3)) := cell_of_row _ _ 3 _ _ _ h
  have c4 : w.cell? ⟨g, 0 + 4, none⟩ = some (.int .i64 (t 4)) := cell_of_row _ _ 4 _ _ _ h
  have c5 : w.cell? ⟨g, 0 + 5, none⟩ = some (.int .i64 (t 5)) := cell_of_row _ _ 5 _ _ _ h
  have c6 : w.cell? ⟨g, 0 + 6, none⟩ = some (.int .i64 (t 6)) := cell_of_row _ _ 6 _ _ _ h
  have c7 : w.cell? ⟨g, 0 + 7, none⟩ = some (.int .i64 (t 7)) := cell_of_row _ _ 7 _ _ _ h
  have HR := Lib.hid (tok_three t)
  have HW0 := Lib.hid (fun W => within_any (t 0) 1 64 W)
  have HW1 := Lib.hid (fun W => within_any (t 1) 1 (t 0) W)
  have HW2 := Lib.hid (fun W => within_any (t 2) 1 (t 1) W)
  have HB := Lib.hid (below_al w (.cells (tcs t) 55))
  unfold tcs at HB
  generalize tok t = R at *
  generalize (decide (1 ≤ t 0) && decide (t 0 ≤ 64)) = b0 at *
  generalize (decide (1 ≤ t 1) && decide (t 1 ≤ t 0)) = b1 at *
  generalize (decide (1 ≤ t 2) && decide (t 2 ≤ t 1)) = b2 at *
  clear h
  generalize t 0 = t0 at *
  generalize t 1 = t1 at *
  generalize t 2 = t2 at *
  generalize t 3 = t3 at *
  generalize t 4 = t4 at *
  generalize t 5 = t5 at *
  generalize t 6 = t6 at *
  generalize t 7 = t7 at *
  cases b0 with
  | false =>
    go_enter Tryz.func64, Tryz.ntmps64
    go_wp2_with fail
    refine wp_loop_rounds 2 ?_
    rw [rounds_succ]
    go_wp2_with fail
    refine (HW0.out _).mono ?_
    rintro e w1 ⟨rfl, rfl⟩
    go_wp2_with fail
    go_ret
    exact ⟨by rw [HR.out]; rfl, HB.out⟩
  | true =>
    cases b1 with
    | false =>
      go_enter Tryz.func64, Tryz.ntmps64
      go_wp2_with fail
      refine wp_loop_rounds 2 ?_
      rw [rounds_succ]
      go_wp2_with fail
      refine (HW0.out _).mono ?_
      rintro e w1 ⟨rfl, rfl⟩
      go_wp2_with fail
      refine (HW1.out _).mono ?_
      rintro e w1 ⟨rfl, rfl⟩
      go_wp2_with fail
      go_ret
      exact ⟨by rw [HR.out]; rfl, HB.out⟩
    | true =>
      cases b2 with
      | false =>
        go_enter Tryz.func64, Tryz.ntmps64
        go_wp2_with fail
        refine wp_loop_rounds 2 ?_
        rw [rounds_succ]
        go_wp2_with fail
        refine (HW0.out _).mono ?_
        rintro e w1 ⟨rfl, rfl⟩
        go_wp2_with fail
        refine (HW1.out _).mono ?_
        rintro e w1 ⟨rfl, rfl⟩
        go_wp2_with fail
        refine (HW2.out _).mono ?_
        rintro e w1 ⟨rfl, rfl⟩
        go_wp2_with fail
        go_ret
        exact ⟨by rw [HR.out]; rfl, HB.out⟩
      | true =>
        go_enter Tryz.func64, Tryz.ntmps64
        go_wp2_with fail
        refine wp_loop_rounds 2 ?_
        rw [rounds_succ]
        go_wp2_with fail
        refine (HW0.out _).mono ?_
        rintro e w1 ⟨rfl, rfl⟩
        go_wp2_with fail
        refine (HW1.out _).mono ?_
        rintro e w1 ⟨rfl, rfl⟩
        go_wp2_with fail
        refine (HW2.out _).mono ?_
        rintro e w1 ⟨rfl, rfl⟩
        go_wp2_with fail
        rw [rounds_succ]
        go_wp2_with fail
        go_ret
        exact ⟨by rw [HR.out]; rfl, HB.out⟩

theorem am_one {w : World} {g : Nat} (h : w.heap[g]? = some (.cells #[.int .i64 0] 3 (0, 0))) : Calls Tryz.prog 65 #[.slice (some ⟨g, 0, none⟩) 1 1] w (IsB true w) := by
  have c0 : w.cell? ⟨g, 0, none⟩ = some (.int .i64 0) := cell_of_row _ _ 0 _ _ _ h
  have HW := Lib.hid (fun W => within_any 0 0 4096 W)
  clear h
  go_enter Tryz.func65, Tryz.ntmps65
  go_wp2_with fail
  refine wp_loop_rounds 2 ?_
  rw [rounds_succ]
  go_wp2_with fail
  refine (HW.out _).mono ?_
  rintro e w1 ⟨rfl, rfl⟩
  go_wp2_with fail
  rw [rounds_succ]
  go_wp2_with fail
  go_ret
  exact ⟨rfl, rfl⟩
theorem ck_one {w : World} {g m : Nat} {t : Nat → Int} (h : TB1 w g t) (hm : w.heap[m]? = some (.cells #[.int .i64 0] 3 (0, 0))) : Calls Tryz.prog 15 #[.slice (some ⟨g, 0, none⟩) 1 1, .slice (some ⟨m, 0, none⟩) 1 1] w (VB (.int .i64 (if tok t then 0 else 2)) w) := by
  have HC := Lib.hid (tm_one h)
  have HM := Lib.hid hm
  clear h hm
  generalize tok t = R at *
  cases R with
  | false =>
    go_enter Tryz.func15, Tryz.ntmps15
    go_wp2_with fail
    refine HC.out.mono ?_
    rintro e w1 ⟨rfl, hb⟩
    have HB := Lib.hid hb
    clear hb
    go_wp2_with fail
    go_ret
    exact ⟨rfl, HB.out⟩
  | true =>
    go_enter Tryz.func15, Tryz.ntmps15
    go_wp2_with fail
    refine HC.out.mono ?_
    rintro e w1 ⟨rfl, hb⟩
    have HB := Lib.hid hb
    have HM1 := Lib.hid ((hb.block m (lt_of_block HM.out)).trans HM.out)
    clear hb
    go_wp2_with fail
    refine (am_one HM1.out).mono ?_
    rintro e w2 ⟨rfl, rfl⟩
    go_wp2_with fail
    go_ret
    exact ⟨rfl, HB.out⟩
set_option maxHeartbeats 2000000 in
theorem pn_task {w : World} {v : Value} {l : List Ak} (t : Nat → Int) (now : Int) (hv : AS w v l) (h : tok t = false) : Calls Tryz.prog 89 #[tv t, v, .int .i64 now] w (NoP 2 w) := by
  have hb0 := ((below_al w (.cells (tcs t) 55)).alloc (by simp) (.cells (tcs t) 55)).alloc (by simp; omega) (.cells #[.int .i64 0] 3)
  have HB := Lib.hid hb0
  have HV := Lib.hid (hv.below hb0)
  have hT : TB1 (((w.alloc (.cells (tcs t) 55)).alloc (.cells (tcs t) 55)).alloc (.cells #[.int .i64 0] 3)) (w.heap.size + 1) t := by
    have q : TB1 ((w.alloc (.cells (tcs t) 55)).alloc (.cells (tcs t) 55)) (w.alloc (.cells (tcs t) 55)).heap.size t := heap_alloc_new _ _
    rw [World.size_alloc] at q
    exact q.below (below_al _ _)
  have hM : (((w.alloc (.cells (tcs t) 55)).alloc (.cells (tcs t) 55)).alloc (.cells #[.int .i64 0] 3)).heap[w.heap.size + 1 + 1]? = some (.cells #[.int .i64 0] 3 (0, 0)) := by
    have q := heap_alloc_new ((w.alloc (.cells (tcs t) 55)).alloc (.cells (tcs t) 55)) (.cells #[.int .i64 0] 3)
    simp only [World.size_alloc] at q
    exact q
  have HC := ck_one hT hM
  rw [h] at HC
  have HC := Lib.hid HC
  clear h hb0 hT hM hv
  unfold tcs at HB HC HV
  unfold tv
  generalize t 0 = t0 at *
  generalize t 1 = t1 at *
  generalize t 2 = t2 at *
  generalize t 3 = t3 at *
  generalize t 4 = t4 at *
  generalize t 5 = t5 at *
  generalize t 6 = t6 at *
  generalize t 7 = t7 at *
  go_enter Tryz.func89, Tryz.ntmps89
  go_wp2_with fail
  refine HC.out.mono ?_
  rintro e w1 ⟨rfl, hb⟩
  have HB1 := Lib.hid (HB.out.trans (hb.mono HB.out.size))
  clear hb HC HB HV
  go_wp2_with fail
  go_ret2
  exact ⟨rfl, HB1.out⟩
set_option maxHeartbeats 2000000 in
theorem pn_neg {w : World} {v : Value} {l : List Ak} (t : Nat → Int) (now : Int) (hv : AS w v l) (h : tok t = true) (hn : now < 0) : Calls Tryz.prog 89 #[tv t, v, .int .i64 now] w (NoP 2 w) := by
  have hb0 := ((below_al w (.cells (tcs t) 55)).alloc (by simp) (.cells (tcs t) 55)).alloc (by simp; omega) (.cells #[.int .i64 0] 3)
  have HB := Lib.hid hb0
  have HV := Lib.hid (hv.below hb0)
  have hT : TB1 (((w.alloc (.cells (tcs t) 55)).alloc (.cells (tcs t) 55)).alloc (.cells #[.int .i64 0] 3)) (w.heap.size + 1) t := by
    have q : TB1 ((w.alloc (.cells (tcs t) 55)).alloc (.cells (tcs t) 55)) (w.alloc (.cells (tcs t) 55)).heap.size t := heap_alloc_new _ _
    rw [World.size_alloc] at q
    exact q.below (below_al _ _)
  have hM : (((w.alloc (.cells (tcs t) 55)).alloc (.cells (tcs t) 55)).alloc (.cells #[.int .i64 0] 3)).heap[w.heap.size + 1 + 1]? = some (.cells #[.int .i64 0] 3 (0, 0)) := by
    have q := heap_alloc_new ((w.alloc (.cells (tcs t) 55)).alloc (.cells (tcs t) 55)) (.cells #[.int .i64 0] 3)
    simp only [World.size_alloc] at q
    exact q
  have HC := ck_one hT hM
  rw [h] at HC
  have HC := Lib.hid HC
  have hd : decide (now < 0) = true := by simpa using hn
  clear h hb0 hT hM hv
  unfold tcs at HB HC HV
  unfold tv
  generalize t 0 = t0 at *
  generalize t 1 = t1 at *
  generalize t 2 = t2 at *
  generalize t 3 = t3 at *
  generalize t 4 = t4 at *
  generalize t 5 = t5 at *
  generalize t 6 = t6 at *
  generalize t 7 = t7 at *
  go_enter Tryz.func89, Tryz.ntmps89
  go_wp2_with fail
  refine HC.out.mono ?_
  rintro e w1 ⟨rfl, hb⟩
  have HB1 := Lib.hid (HB.out.trans (hb.mono HB.out.size))
  clear hb HC HB HV
  go_wp2_with fail
  go_ret2
  exact ⟨rfl, HB1.out⟩
set_option maxHeartbeats 2000000 in
theorem pn_over {w : World} {v : Value} {l : List Ak} (t : Nat → Int) (now : Int) (hv : AS w v l) (h : tok t = true) (hn : 0 ≤ now) (hm : 1099511627776 < now) : Calls Tryz.prog 89 #[tv t, v, .int .i64 now] w (NoP 10 w) := by
  have hb0 := ((below_al w (.cells (tcs t) 55)).alloc (by simp) (.cells (tcs t) 55)).alloc (by simp; omega) (.cells #[.int .i64 0] 3)
  have HB := Lib.hid hb0
  have HV := Lib.hid (hv.below hb0)
  have hT : TB1 (((w.alloc (.cells (tcs t) 55)).alloc (.cells (tcs t) 55)).alloc (.cells #[.int .i64 0] 3)) (w.heap.size + 1) t := by
    have q : TB1 ((w.alloc (.cells (tcs t) 55)).alloc (.cells (tcs t) 55)) (w.alloc (.cells (tcs t) 55)).heap.size t := heap_alloc_new _ _
    rw [World.size_alloc] at q
    exact q.below (below_al _ _)
  have hM : (((w.alloc (.cells (tcs t) 55)).alloc (.cells (tcs t) 55)).alloc (.cells #[.int .i64 0] 3)).heap[w.heap.size + 1 + 1]? = some (.cells #[.int .i64 0] 3 (0, 0)) := by
    have q := heap_alloc_new ((w.alloc (.cells (tcs t) 55)).alloc (.cells (tcs t) 55)) (.cells #[.int .i64 0] 3)
    simp only [World.size_alloc] at q
    exact q
  have HC := ck_one hT hM
  rw [h] at HC
  have HC := Lib.hid HC
  have hd : decide (now < 0) = false := by simp; omega
  have hd2 : decide (1099511627776 < now) = true := by simpa using hm
  clear h hb0 hT hM hv
  unfold tcs at HB HC HV
  unfold tv
  generalize t 0 = t0 at *
  generalize t 1 = t1 at *
  generalize t 2 = t2 at *
  generalize t 3 = t3 at *
  generalize t 4 = t4 at *
  generalize t 5 = t5 at *
  generalize t 6 = t6 at *
  generalize t 7 = t7 at *
  go_enter Tryz.func89, Tryz.ntmps89
  go_wp2_with fail
  refine HC.out.mono ?_
  rintro e w1 ⟨rfl, hb⟩
  have HB1 := Lib.hid (HB.out.trans (hb.mono HB.out.size))
  clear hb HC HB HV
  go_wp2_with fail
  go_ret2
  exact ⟨rfl, HB1.out⟩
set_option maxHeartbeats 2000000 in
theorem pn_err {w : World} {v : Value} {l : List Ak} (t : Nat → Int) (now : Int) (hv : AS w v l) (h : tok t = true) (hn : 0 ≤ now) (hm : now ≤ 1099511627776) {er : Int} (hne : er ≠ 0) (hr : ∀ (W : World) (v : Value), AS W v l → Calls Tryz.prog 150 #[v] W (NoP er W)) : Calls Tryz.prog 89 #[tv t, v, .int .i64 now] w (NoP er w) := by
  have hb0 := ((below_al w (.cells (tcs t) 55)).alloc (by simp) (.cells (tcs t) 55)).alloc (by simp; omega) (.cells #[.int .i64 0] 3)
  have HB := Lib.hid hb0
  have HV := Lib.hid (hv.below hb0)
  have hT : TB1 (((w.alloc (.cells (tcs t) 55)).alloc (.cells (tcs t) 55)).alloc (.cells #[.int .i64 0] 3)) (w.heap.size + 1) t := by
    have q : TB1 ((w.alloc (.cells (tcs t) 55)).alloc (.cells (tcs t) 55)) (w.alloc (.cells (tcs t) 55)).heap.size t := heap_alloc_new _ _
    rw [World.size_alloc] at q
    exact q.below (below_al _ _)
  have hM : (((w.alloc (.cells (tcs t) 55)).alloc (.cells (tcs t) 55)).alloc (.cells #[.int .i64 0] 3)).heap[w.heap.size + 1 + 1]? = some (.cells #[.int .i64 0] 3 (0, 0)) := by
    have q := heap_alloc_new ((w.alloc (.cells (tcs t) 55)).alloc (.cells (tcs t) 55)) (.cells #[.int .i64 0] 3)
    simp only [World.size_alloc] at q
    exact q
  have HC := ck_one hT hM
  rw [h] at HC
  have HC := Lib.hid HC
  have hd : decide (now < 0) = false := by simp; omega
  have hd2 : decide (1099511627776 < now) = false := by simp; omega
  have HQ := Lib.hid hr
  have hz : (er == 0) = false := by simpa using hne
  have hz2 : (er != 0) = true := by simpa using hne
  clear h hne hr hb0 hT hM hv
  unfold tcs at HB HC HV
  unfold tv
  generalize t 0 = t0 at *
  generalize t 1 = t1 at *
  generalize t 2 = t2 at *
  generalize t 3 = t3 at *
  generalize t 4 = t4 at *
  generalize t 5 = t5 at *
  generalize t 6 = t6 at *
  generalize t 7 = t7 at *
  go_enter Tryz.func89, Tryz.ntmps89
  go_wp2_with fail
  refine HC.out.mono ?_
  rintro e w1 ⟨rfl, hb⟩
  have HB1 := Lib.hid (HB.out.trans (hb.mono HB.out.size))
  have HV1 := Lib.hid (HV.out.below hb)
  clear hb HC HB HV
  go_wp2_with fail
  refine (HQ.out _ _ HV1.out).mono ?_
  rintro e w2 ⟨rfl, hb⟩
  have HB2 := Lib.hid (HB1.out.trans (hb.mono HB1.out.size))
  clear hb HB1 HV1
  go_wp2_with fail
  go_ret2
  exact ⟨rfl, HB2.out⟩
/-- a job is answered -/
def PNew (s : Jb) (w : World) (e : Ending) (w' : World) : Prop :=
  ∃ jb rb g, e = .returned (.tuple #[.pointer (some ⟨jb, 0, none⟩), .int .i64 0]) ∧ PJ w' jb rb g s ∧ w.heap.size ≤ jb ∧ w.heap.size ≤ rb ∧ w.heap.size ≤ g ∧ Below w.heap.size w w'
set_option maxHeartbeats 2000000 in
theorem pn_ok {w : World} {v : Value} {l : List Ak} (t : Nat → Int) (now : Int) (hv : AS w v l) (h : tok t = true) (hn : 0 ≤ now) (hm : now ≤ 1099511627776) (hg : Gd l) : Calls Tryz.prog 89 #[tv t, v, .int .i64 now] w (PNew (fresh t (now + t 1) l) w) := by
  have hb0 := ((below_al w (.cells (tcs t) 55)).alloc (by simp) (.cells (tcs t) 55)).alloc (by simp; omega) (.cells #[.int .i64 0] 3)
  have HB := Lib.hid hb0
  have HV := Lib.hid (hv.below hb0)
  have hT : TB1 (((w.alloc (.cells (tcs t) 55)).alloc (.cells (tcs t) 55)).alloc (.cells #[.int .i64 0] 3)) (w.heap.size + 1) t := by
    have q : TB1 ((w.alloc (.cells (tcs t) 55)).alloc (.cells (tcs t) 55)) (w.alloc (.cells (tcs t) 55)).heap.size t := heap_alloc_new _ _
    rw [World.size_alloc] at q
    exact q.below (below_al _ _)
  have hM : (((w.alloc (.cells (tcs t) 55)).alloc (.cells (tcs t) 55)).alloc (.cells #[.int .i64 0] 3)).heap[w.heap.size + 1 + 1]? = some (.cells #[.int .i64 0] 3 (0, 0)) := by
    have q := heap_alloc_new ((w.alloc (.cells (tcs t) 55)).alloc (.cells (tcs t) 55)) (.cells #[.int .i64 0] 3)
    simp only [World.size_alloc] at q
    exact q
  have HC := ck_one hT hM
  rw [h] at HC
  have HC := Lib.hid HC
  have hd : decide (now < 0) = false := by simp; omega
  have hd2 : decide (1099511627776 < now) = false := by simp; omega
  have HG := Lib.hid hg
  have hbd := tok_bd h
  have ht0 : 1 ≤ t 1 := hbd.2.2.1
  have ht1 : t 1 ≤ 64 := by omega
  have HF : Hid (∀ (w2 w3 : World) (rb g : Nat), Below w.heap.size w w2 → PR w3 rb g l → w2.heap.size ≤ rb → w2.heap.size ≤ g → g < w3.heap.size → Below w2.heap.size w2 w3 →
      PNew (fresh t (now + t 1) l) w (.returned (.tuple #[.pointer (some ⟨w3.heap.size, 0, none⟩), .int .i64 0])) (w3.alloc (.cells #[.pointer (some ⟨rb, 0, none⟩), .int .i64 (t 0), .int .i64 (t 1), .int .i64 (t 2), .int .i64 (t 3), .int .i64 (t 4), .int .i64 (t 5), .int .i64 (t 6), .int .i64 (t 7), .int .i64 (now + t 1), .bool false, .int .i64 0, .int .i64 0, .int .i64 0, .int .i64 0] 149))) :=
    fun w2 w3 rb g hb hdr h1 h2 h3 hb3 => by
      have hs := hb.size
      have hs3 := hb3.size
      have hlt := hdr.lt
      exact ⟨w3.heap.size, rb, g, rfl, ⟨heap_alloc_new w3 _, hdr.below (below_al w3 _), by simp; omega, by omega, by omega⟩, by omega, by omega, by omega, ((hb.trans (hb3.mono hs)).trans ((below_al w3 _).mono (by omega)))⟩
  have HT : Hid (TB1 (((w.alloc (.cells (tcs t) 55)).alloc (.cells (tcs t) 55)).alloc (.cells #[.int .i64 0] 3)) w.heap.size t) := (show TB1 (w.alloc (.cells (tcs t) 55)) w.heap.size t from heap_alloc_new w _).below ((below_al _ _).alloc (by simp) _)
  have HCells : Hid (∀ W, Below (((w.alloc (.cells (tcs t) 55)).alloc (.cells (tcs t) 55)).alloc (.cells #[.int .i64 0] 3)).heap.size (((w.alloc (.cells (tcs t) 55)).alloc (.cells (tcs t) 55)).alloc (.cells #[.int .i64 0] 3)) W →
      W.cell? ⟨w.heap.size, 0, none⟩ = some (.int .i64 (t 0)) ∧ W.cell? ⟨w.heap.size, 0 + 1, none⟩ = some (.int .i64 (t 1)) ∧ W.cell? ⟨w.heap.size, 0 + 2, none⟩ = some (.int .i64 (t 2)) ∧ W.cell? ⟨w.heap.size, 0 + 3, none⟩ = some (.int .i64 (t 3)) ∧ W.cell? ⟨w.heap.size, 0 + 4, none⟩ = some (.int .i64 (t 4)) ∧ W.cell? ⟨w.heap.size, 0 + 5, none⟩ = some (.int .i64 (t 5)) ∧ W.cell? ⟨w.heap.size, 0 + 6, none⟩ = some (.int .i64 (t 6)) ∧ W.cell? ⟨w.heap.size, 0 + 7, none⟩ = some (.int .i64 (t 7))) := fun W hW => by
    have q := HT.out.below hW
    exact ⟨cell_of_row _ _ 0 _ _ _ q, cell_of_row _ _ 1 _ _ _ q, cell_of_row _ _ 2 _ _ _ q, cell_of_row _ _ 3 _ _ _ q, cell_of_row _ _ 4 _ _ _ q, cell_of_row _ _ 5 _ _ _ q, cell_of_row _ _ 6 _ _ _ q, cell_of_row _ _ 7 _ _ _ q⟩
  clear HT hbd hg
  clear h hb0 hT hM hv
  unfold tcs at HB HC HV HCells
  unfold tv
  generalize t 0 = t0 at *
  generalize t 1 = t1 at *
  generalize t 2 = t2 at *
  generalize t 3 = t3 at *
  generalize t 4 = t4 at *
  generalize t 5 = t5 at *
  generalize t 6 = t6 at *
  generalize t 7 = t7 at *
  go_enter Tryz.func89, Tryz.ntmps89
  go_wp2_with fail
  refine HC.out.mono ?_
  rintro e w1 ⟨rfl, hb⟩
  have HB1 := Lib.hid (HB.out.trans (hb.mono HB.out.size))
  have HV1 := Lib.hid (HV.out.below hb)
  have HB0 := Lib.hid hb
  clear hb HC HB HV
  go_wp2_with fail
  refine (new_yes HV1.out HG.out).mono ?_
  rintro e w2 ⟨rb, g, rfl, hdr, h1, h2, h3, hb⟩
  obtain ⟨c0, c1, c2, c3, c4, c5, c6, c7⟩ := HCells.out w2 (chn HB0.out hb)
  have HE := Lib.hid (HF.out w1 w2 rb g HB1.out hdr h1 h2 h3 hb)
  clear hdr h1 h2 h3 hb HF HB0 HB1 HCells HV1
  go_wp2_with fail
  go_ret2
  exact HE.out
end Go.Proofs.YtkkmfpllgjoceaaGreat
