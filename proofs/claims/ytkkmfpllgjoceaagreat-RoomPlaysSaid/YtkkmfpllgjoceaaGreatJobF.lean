/- The document's job: Fault. -/
import Derived.Test.YtkkmfpllgjoceaaGreatJobD
namespace Go.Proofs.YtkkmfpllgjoceaaGreat
open Go.RowKit Ac Jo
set_option linter.unusedVariables false
set_option maxRecDepth 100000

theorem below_dN {B : Nat} {a b : World} (h : Below B a b) (n : Nat) : Below B a (b.drewN n) := ⟨h.os, h.tape, h.output, h.size, h.block⟩
set_option maxHeartbeats 2000000 in
theorem rf_end {w : World} {jb rb g : Nat} {s : Jb} (h : DJ w jb rb g s) (hi : Inv s) (now : Int) {k n : Int} {t : ByteArray} {l : List Ak} (hl : s.l = ⟨k, n, t⟩ :: l) (h1 : s.e ≤ now) : Calls Tryz.prog 118 #[.pointer (some ⟨jb, 0, none⟩), .int .i64 now] w (VB (.int .i64 3) w) := by
  have c8 : w.cell? ⟨jb, 8, none⟩ = some (.pointer (some ⟨rb, 0, none⟩)) := h.cell 8
  have HX : Hid (Calls Tryz.prog 169 #[.pointer (some ⟨rb, 0, none⟩)] w (VB (.tuple #[.agg #[.int .i64 k, .int .i64 n, .string t], .bool true]) w)) := by have q := rnext_any h.rw; rw [hl] at q; exact q
  have H := Lib.hid h
  have HG := Lib.hid hi.gd
  have HLF : Hid (∀ W, DJ W jb rb g s → Calls Tryz.prog 170 #[.pointer (some ⟨rb, 0, none⟩)] W (IsI (left s.l) W)) := fun W q => rleft_is q.rw hi.gd
  have HLB := Lib.hid (show 0 ≤ left s.l ∧ left s.l ≤ 2048 by have q1 := left_bd hi.gd.all; have q2 := hi.gd.len; omega)
  have mixed : Tryz.prog.follows .mixedOrders = true := by kernel_rfl
  have d1 : decide (s.e ≤ now) = true := by simpa using h1
  clear h hi hl
  go_enter Tryz.func118, Tryz.ntmps118
  go_wp2_with fail
  refine HX.out.mono ?_
  rintro e w1 ⟨rfl, hb⟩
  have hb2 := hb.alloc hb.size (.cells #[.int .i64 k, .int .i64 n, .string t] 57)
  have HB := Lib.hid hb2
  have hj := H.out.below hb2
  have c0 : (w1.alloc (.cells #[.int .i64 k, .int .i64 n, .string t] 57)).cell? ⟨jb, 2, none⟩ = some (.int .i64 (s.t 2)) := hj.cell 2
  have c4 : (w1.alloc (.cells #[.int .i64 k, .int .i64 n, .string t] 57)).cell? ⟨jb, 4, none⟩ = some (.int .i64 (s.t 4)) := hj.cell 4
  have c6 : (w1.alloc (.cells #[.int .i64 k, .int .i64 n, .string t] 57)).cell? ⟨jb, 6, none⟩ = some (.int .i64 (s.t 6)) := hj.cell 6
  have c8b : (w1.alloc (.cells #[.int .i64 k, .int .i64 n, .string t] 57)).cell? ⟨jb, 8, none⟩ = some (.pointer (some ⟨rb, 0, none⟩)) := hj.cell 8
  have c9 : (w1.alloc (.cells #[.int .i64 k, .int .i64 n, .string t] 57)).cell? ⟨jb, 9, none⟩ = some (.int .i64 s.e) := hj.cell 9
  have c10 : (w1.alloc (.cells #[.int .i64 k, .int .i64 n, .string t] 57)).cell? ⟨jb, 10, none⟩ = some (.int .i64 s.n) := hj.cell 10
  have c11 : (w1.alloc (.cells #[.int .i64 k, .int .i64 n, .string t] 57)).cell? ⟨jb, 11, none⟩ = some (.int .i64 s.c) := hj.cell 11
  have c12 : (w1.alloc (.cells #[.int .i64 k, .int .i64 n, .string t] 57)).cell? ⟨jb, 12, none⟩ = some (.int .i64 (dk s)) := hj.cell 12
  obtain ⟨v0, v1, v2⟩ := (AB.new w1 k n t).cells
  have HJ := Lib.hid hj
  clear hb hb2 hj HX c8 H
  go_wp2_with fail
  generalize w1.alloc (.cells #[.int .i64 k, .int .i64 n, .string t] 57) = W at *
  generalize w1.heap.size = vb at *
  go_ret
  exact ⟨rfl, by first | exact HB.out | exact below_dN HB.out _ | exact below_dN (below_dN HB.out _) _ | exact below_dN (below_dN (below_dN HB.out _) _) _⟩
set_option maxHeartbeats 2000000 in
theorem rf_bound {w : World} {jb rb g : Nat} {s : Jb} (h : DJ w jb rb g s) (hi : Inv s) (now : Int) {k n : Int} {t : ByteArray} {l : List Ak} (hl : s.l = ⟨k, n, t⟩ :: l) (h1 : now < s.e) (h2 : s.t 2 ≤ s.n) (h3 : 0 < left s.l) : Calls Tryz.prog 118 #[.pointer (some ⟨jb, 0, none⟩), .int .i64 now] w (VB (.int .i64 1) w) := by
  have c8 : w.cell? ⟨jb, 8, none⟩ = some (.pointer (some ⟨rb, 0, none⟩)) := h.cell 8
  have HX : Hid (Calls Tryz.prog 169 #[.pointer (some ⟨rb, 0, none⟩)] w (VB (.tuple #[.agg #[.int .i64 k, .int .i64 n, .string t], .bool true]) w)) := by have q := rnext_any h.rw; rw [hl] at q; exact q
  have H := Lib.hid h
  have HG := Lib.hid hi.gd
  have HLF : Hid (∀ W, DJ W jb rb g s → Calls Tryz.prog 170 #[.pointer (some ⟨rb, 0, none⟩)] W (IsI (left s.l) W)) := fun W q => rleft_is q.rw hi.gd
  have HLB := Lib.hid (show 0 ≤ left s.l ∧ left s.l ≤ 2048 by have q1 := left_bd hi.gd.all; have q2 := hi.gd.len; omega)
  have mixed : Tryz.prog.follows .mixedOrders = true := by kernel_rfl
  have d1 : decide (s.e ≤ now) = false := by simp; omega
  have d2 : decide (s.t 2 ≤ s.n) = true := by simpa using h2
  have d3 : decide (0 < left s.l) = true := by simpa using h3
  clear h hi hl
  go_enter Tryz.func118, Tryz.ntmps118
  go_wp2_with fail
  refine HX.out.mono ?_
  rintro e w1 ⟨rfl, hb⟩
  have hb2 := hb.alloc hb.size (.cells #[.int .i64 k, .int .i64 n, .string t] 57)
  have HB := Lib.hid hb2
  have hj := H.out.below hb2
  have c0 : (w1.alloc (.cells #[.int .i64 k, .int .i64 n, .string t] 57)).cell? ⟨jb, 2, none⟩ = some (.int .i64 (s.t 2)) := hj.cell 2
  have c4 : (w1.alloc (.cells #[.int .i64 k, .int .i64 n, .string t] 57)).cell? ⟨jb, 4, none⟩ = some (.int .i64 (s.t 4)) := hj.cell 4
  have c6 : (w1.alloc (.cells #[.int .i64 k, .int .i64 n, .string t] 57)).cell? ⟨jb, 6, none⟩ = some (.int .i64 (s.t 6)) := hj.cell 6
  have c8b : (w1.alloc (.cells #[.int .i64 k, .int .i64 n, .string t] 57)).cell? ⟨jb, 8, none⟩ = some (.pointer (some ⟨rb, 0, none⟩)) := hj.cell 8
  have c9 : (w1.alloc (.cells #[.int .i64 k, .int .i64 n, .string t] 57)).cell? ⟨jb, 9, none⟩ = some (.int .i64 s.e) := hj.cell 9
  have c10 : (w1.alloc (.cells #[.int .i64 k, .int .i64 n, .string t] 57)).cell? ⟨jb, 10, none⟩ = some (.int .i64 s.n) := hj.cell 10
  have c11 : (w1.alloc (.cells #[.int .i64 k, .int .i64 n, .string t] 57)).cell? ⟨jb, 11, none⟩ = some (.int .i64 s.c) := hj.cell 11
  have c12 : (w1.alloc (.cells #[.int .i64 k, .int .i64 n, .string t] 57)).cell? ⟨jb, 12, none⟩ = some (.int .i64 (dk s)) := hj.cell 12
  obtain ⟨v0, v1, v2⟩ := (AB.new w1 k n t).cells
  have HJ := Lib.hid hj
  clear hb hb2 hj HX c8 H
  go_wp2_with fail
  generalize w1.alloc (.cells #[.int .i64 k, .int .i64 n, .string t] 57) = W at *
  generalize w1.heap.size = vb at *
  go_quiet ((go_at_call 170; exact Calls.quiet_of_same ((HLF.out _ (HJ.out.drewN _)).mono fun _ _ ⟨e1, e2⟩ => ⟨e1, e2.symm⟩)))
  go_wp2_with fail
  go_ret
  exact ⟨rfl, by first | exact HB.out | exact below_dN HB.out _ | exact below_dN (below_dN HB.out _) _ | exact below_dN (below_dN (below_dN HB.out _) _) _⟩
set_option maxHeartbeats 2000000 in
theorem rf_glob_a {w : World} {jb rb g : Nat} {s : Jb} (h : DJ w jb rb g s) (hi : Inv s) (now : Int) {k n : Int} {t : ByteArray} {l : List Ak} (hl : s.l = ⟨k, n, t⟩ :: l) (h1 : now < s.e) (h2 : s.n < s.t 2) (h4 : s.c = 2) (h5 : s.t 6 ≤ s.k) : Calls Tryz.prog 118 #[.pointer (some ⟨jb, 0, none⟩), .int .i64 now] w (VB (.int .i64 2) w) := by
  have c8 : w.cell? ⟨jb, 8, none⟩ = some (.pointer (some ⟨rb, 0, none⟩)) := h.cell 8
  have HX : Hid (Calls Tryz.prog 169 #[.pointer (some ⟨rb, 0, none⟩)] w (VB (.tuple #[.agg #[.int .i64 k, .int .i64 n, .string t], .bool true]) w)) := by have q := rnext_any h.rw; rw [hl] at q; exact q
  have H := Lib.hid h
  have HG := Lib.hid hi.gd
  have HLF : Hid (∀ W, DJ W jb rb g s → Calls Tryz.prog 170 #[.pointer (some ⟨rb, 0, none⟩)] W (IsI (left s.l) W)) := fun W q => rleft_is q.rw hi.gd
  have HLB := Lib.hid (show 0 ≤ left s.l ∧ left s.l ≤ 2048 by have q1 := left_bd hi.gd.all; have q2 := hi.gd.len; omega)
  have mixed : Tryz.prog.follows .mixedOrders = true := by kernel_rfl
  have d1 : decide (s.e ≤ now) = false := by simp; omega
  have d2 : decide (s.t 2 ≤ s.n) = false := by simp; omega
  have HKK := Lib.hid (show dk s = s.k from if_neg (by omega))
  have d4 : (s.c == 2) = true := by simpa using h4
  have d5 : decide (s.t 6 ≤ s.k) = true := by simpa using h5
  clear h hi hl
  go_enter Tryz.func118, Tryz.ntmps118
  go_wp2_with fail
  refine HX.out.mono ?_
  rintro e w1 ⟨rfl, hb⟩
  have hb2 := hb.alloc hb.size (.cells #[.int .i64 k, .int .i64 n, .string t] 57)
  have HB := Lib.hid hb2
  have hj := H.out.below hb2
  have c0 : (w1.alloc (.cells #[.int .i64 k, .int .i64 n, .string t] 57)).cell? ⟨jb, 2, none⟩ = some (.int .i64 (s.t 2)) := hj.cell 2
  have c4 : (w1.alloc (.cells #[.int .i64 k, .int .i64 n, .string t] 57)).cell? ⟨jb, 4, none⟩ = some (.int .i64 (s.t 4)) := hj.cell 4
  have c6 : (w1.alloc (.cells #[.int .i64 k, .int .i64 n, .string t] 57)).cell? ⟨jb, 6, none⟩ = some (.int .i64 (s.t 6)) := hj.cell 6
  have c8b : (w1.alloc (.cells #[.int .i64 k, .int .i64 n, .string t] 57)).cell? ⟨jb, 8, none⟩ = some (.pointer (some ⟨rb, 0, none⟩)) := hj.cell 8
  have c9 : (w1.alloc (.cells #[.int .i64 k, .int .i64 n, .string t] 57)).cell? ⟨jb, 9, none⟩ = some (.int .i64 s.e) := hj.cell 9
  have c10 : (w1.alloc (.cells #[.int .i64 k, .int .i64 n, .string t] 57)).cell? ⟨jb, 10, none⟩ = some (.int .i64 s.n) := hj.cell 10
  have c11 : (w1.alloc (.cells #[.int .i64 k, .int .i64 n, .string t] 57)).cell? ⟨jb, 11, none⟩ = some (.int .i64 s.c) := hj.cell 11
  have c12 : (w1.alloc (.cells #[.int .i64 k, .int .i64 n, .string t] 57)).cell? ⟨jb, 12, none⟩ = some (.int .i64 (dk s)) := hj.cell 12
  rw [HKK.out] at c12
  obtain ⟨v0, v1, v2⟩ := (AB.new w1 k n t).cells
  have HJ := Lib.hid hj
  clear hb hb2 hj HX c8 H
  go_wp2_with fail
  generalize w1.alloc (.cells #[.int .i64 k, .int .i64 n, .string t] 57) = W at *
  generalize w1.heap.size = vb at *
  go_quiet (fail)
  go_wp2_with fail
  go_quiet (fail)
  go_wp2_with fail
  go_ret
  exact ⟨rfl, by first | exact HB.out | exact below_dN HB.out _ | exact below_dN (below_dN HB.out _) _ | exact below_dN (below_dN (below_dN HB.out _) _) _⟩
set_option maxHeartbeats 2000000 in
theorem rf_glob0_a {w : World} {jb rb g : Nat} {s : Jb} (h : DJ w jb rb g s) (hi : Inv s) (now : Int) {k n : Int} {t : ByteArray} {l : List Ak} (hl : s.l = ⟨k, n, t⟩ :: l) (h1 : now < s.e) (h2 : s.n < s.t 2) (h4 : s.c = 2) (h5 : s.k < s.t 6) : Calls Tryz.prog 118 #[.pointer (some ⟨jb, 0, none⟩), .int .i64 now] w (VB (.int .i64 0) w) := by
  have c8 : w.cell? ⟨jb, 8, none⟩ = some (.pointer (some ⟨rb, 0, none⟩)) := h.cell 8
  have HX : Hid (Calls Tryz.prog 169 #[.pointer (some ⟨rb, 0, none⟩)] w (VB (.tuple #[.agg #[.int .i64 k, .int .i64 n, .string t], .bool true]) w)) := by have q := rnext_any h.rw; rw [hl] at q; exact q
  have H := Lib.hid h
  have HG := Lib.hid hi.gd
  have HLF : Hid (∀ W, DJ W jb rb g s → Calls Tryz.prog 170 #[.pointer (some ⟨rb, 0, none⟩)] W (IsI (left s.l) W)) := fun W q => rleft_is q.rw hi.gd
  have HLB := Lib.hid (show 0 ≤ left s.l ∧ left s.l ≤ 2048 by have q1 := left_bd hi.gd.all; have q2 := hi.gd.len; omega)
  have mixed : Tryz.prog.follows .mixedOrders = true := by kernel_rfl
  have d1 : decide (s.e ≤ now) = false := by simp; omega
  have d2 : decide (s.t 2 ≤ s.n) = false := by simp; omega
  have HKK := Lib.hid (show dk s = s.k from if_neg (by omega))
  have d4 : (s.c == 2) = true := by simpa using h4
  have d4b : (s.c == 1) = false := by simp; omega
  have d5 : decide (s.t 6 ≤ s.k) = false := by simp; omega
  clear h hi hl
  go_enter Tryz.func118, Tryz.ntmps118
  go_wp2_with fail
  refine HX.out.mono ?_
  rintro e w1 ⟨rfl, hb⟩
  have hb2 := hb.alloc hb.size (.cells #[.int .i64 k, .int .i64 n, .string t] 57)
  have HB := Lib.hid hb2
  have hj := H.out.below hb2
  have c0 : (w1.alloc (.cells #[.int .i64 k, .int .i64 n, .string t] 57)).cell? ⟨jb, 2, none⟩ = some (.int .i64 (s.t 2)) := hj.cell 2
  have c4 : (w1.alloc (.cells #[.int .i64 k, .int .i64 n, .string t] 57)).cell? ⟨jb, 4, none⟩ = some (.int .i64 (s.t 4)) := hj.cell 4
  have c6 : (w1.alloc (.cells #[.int .i64 k, .int .i64 n, .string t] 57)).cell? ⟨jb, 6, none⟩ = some (.int .i64 (s.t 6)) := hj.cell 6
  have c8b : (w1.alloc (.cells #[.int .i64 k, .int .i64 n, .string t] 57)).cell? ⟨jb, 8, none⟩ = some (.pointer (some ⟨rb, 0, none⟩)) := hj.cell 8
  have c9 : (w1.alloc (.cells #[.int .i64 k, .int .i64 n, .string t] 57)).cell? ⟨jb, 9, none⟩ = some (.int .i64 s.e) := hj.cell 9
  have c10 : (w1.alloc (.cells #[.int .i64 k, .int .i64 n, .string t] 57)).cell? ⟨jb, 10, none⟩ = some (.int .i64 s.n) := hj.cell 10
  have c11 : (w1.alloc (.cells #[.int .i64 k, .int .i64 n, .string t] 57)).cell? ⟨jb, 11, none⟩ = some (.int .i64 s.c) := hj.cell 11
  have c12 : (w1.alloc (.cells #[.int .i64 k, .int .i64 n, .string t] 57)).cell? ⟨jb, 12, none⟩ = some (.int .i64 (dk s)) := hj.cell 12
  rw [HKK.out] at c12
  obtain ⟨v0, v1, v2⟩ := (AB.new w1 k n t).cells
  have HJ := Lib.hid hj
  clear hb hb2 hj HX c8 H
  go_wp2_with fail
  generalize w1.alloc (.cells #[.int .i64 k, .int .i64 n, .string t] 57) = W at *
  generalize w1.heap.size = vb at *
  go_quiet (fail)
  go_wp2_with fail
  go_quiet (fail)
  go_wp2_with fail
  go_quiet (fail)
  go_wp2_with fail
  go_ret
  exact ⟨rfl, by first | exact HB.out | exact below_dN HB.out _ | exact below_dN (below_dN HB.out _) _ | exact below_dN (below_dN (below_dN HB.out _) _) _⟩
set_option maxHeartbeats 2000000 in
theorem rf_oth_a {w : World} {jb rb g : Nat} {s : Jb} (h : DJ w jb rb g s) (hi : Inv s) (now : Int) {k n : Int} {t : ByteArray} {l : List Ak} (hl : s.l = ⟨k, n, t⟩ :: l) (h1 : now < s.e) (h2 : s.n < s.t 2) (h4 : s.c ≠ 2) (h5 : s.c ≠ 1) : Calls Tryz.prog 118 #[.pointer (some ⟨jb, 0, none⟩), .int .i64 now] w (VB (.int .i64 0) w) := by
  have c8 : w.cell? ⟨jb, 8, none⟩ = some (.pointer (some ⟨rb, 0, none⟩)) := h.cell 8
  have HX : Hid (Calls Tryz.prog 169 #[.pointer (some ⟨rb, 0, none⟩)] w (VB (.tuple #[.agg #[.int .i64 k, .int .i64 n, .string t], .bool true]) w)) := by have q := rnext_any h.rw; rw [hl] at q; exact q
  have H := Lib.hid h
  have HG := Lib.hid hi.gd
  have HLF : Hid (∀ W, DJ W jb rb g s → Calls Tryz.prog 170 #[.pointer (some ⟨rb, 0, none⟩)] W (IsI (left s.l) W)) := fun W q => rleft_is q.rw hi.gd
  have HLB := Lib.hid (show 0 ≤ left s.l ∧ left s.l ≤ 2048 by have q1 := left_bd hi.gd.all; have q2 := hi.gd.len; omega)
  have mixed : Tryz.prog.follows .mixedOrders = true := by kernel_rfl
  have d1 : decide (s.e ≤ now) = false := by simp; omega
  have d2 : decide (s.t 2 ≤ s.n) = false := by simp; omega
  have d4 : (s.c == 2) = false := by simpa using h4
  have d4b : (s.c == 1) = false := by simpa using h5
  clear h hi hl
  go_enter Tryz.func118, Tryz.ntmps118
  go_wp2_with fail
  refine HX.out.mono ?_
  rintro e w1 ⟨rfl, hb⟩
  have hb2 := hb.alloc hb.size (.cells #[.int .i64 k, .int .i64 n, .string t] 57)
  have HB := Lib.hid hb2
  have hj := H.out.below hb2
  have c0 : (w1.alloc (.cells #[.int .i64 k, .int .i64 n, .string t] 57)).cell? ⟨jb, 2, none⟩ = some (.int .i64 (s.t 2)) := hj.cell 2
  have c4 : (w1.alloc (.cells #[.int .i64 k, .int .i64 n, .string t] 57)).cell? ⟨jb, 4, none⟩ = some (.int .i64 (s.t 4)) := hj.cell 4
  have c6 : (w1.alloc (.cells #[.int .i64 k, .int .i64 n, .string t] 57)).cell? ⟨jb, 6, none⟩ = some (.int .i64 (s.t 6)) := hj.cell 6
  have c8b : (w1.alloc (.cells #[.int .i64 k, .int .i64 n, .string t] 57)).cell? ⟨jb, 8, none⟩ = some (.pointer (some ⟨rb, 0, none⟩)) := hj.cell 8
  have c9 : (w1.alloc (.cells #[.int .i64 k, .int .i64 n, .string t] 57)).cell? ⟨jb, 9, none⟩ = some (.int .i64 s.e) := hj.cell 9
  have c10 : (w1.alloc (.cells #[.int .i64 k, .int .i64 n, .string t] 57)).cell? ⟨jb, 10, none⟩ = some (.int .i64 s.n) := hj.cell 10
  have c11 : (w1.alloc (.cells #[.int .i64 k, .int .i64 n, .string t] 57)).cell? ⟨jb, 11, none⟩ = some (.int .i64 s.c) := hj.cell 11
  have c12 : (w1.alloc (.cells #[.int .i64 k, .int .i64 n, .string t] 57)).cell? ⟨jb, 12, none⟩ = some (.int .i64 (dk s)) := hj.cell 12
  obtain ⟨v0, v1, v2⟩ := (AB.new w1 k n t).cells
  have HJ := Lib.hid hj
  clear hb hb2 hj HX c8 H
  go_wp2_with fail
  generalize w1.alloc (.cells #[.int .i64 k, .int .i64 n, .string t] 57) = W at *
  generalize w1.heap.size = vb at *
  go_quiet (fail)
  go_wp2_with fail
  go_quiet (fail)
  go_wp2_with fail
  go_quiet (fail)
  go_wp2_with fail
  go_ret
  exact ⟨rfl, by first | exact HB.out | exact below_dN HB.out _ | exact below_dN (below_dN HB.out _) _ | exact below_dN (below_dN (below_dN HB.out _) _) _⟩
set_option maxHeartbeats 2000000 in
theorem rf_loc0_a {w : World} {jb rb g : Nat} {s : Jb} (h : DJ w jb rb g s) (hi : Inv s) (now : Int) {k n : Int} {t : ByteArray} {l : List Ak} (hl : s.l = ⟨k, n, t⟩ :: l) (h1 : now < s.e) (h2 : s.n < s.t 2) (h4 : s.c = 1) (h5 : s.k < s.t 4) : Calls Tryz.prog 118 #[.pointer (some ⟨jb, 0, none⟩), .int .i64 now] w (VB (.int .i64 0) w) := by
  have c8 : w.cell? ⟨jb, 8, none⟩ = some (.pointer (some ⟨rb, 0, none⟩)) := h.cell 8
  have HX : Hid (Calls Tryz.prog 169 #[.pointer (some ⟨rb, 0, none⟩)] w (VB (.tuple #[.agg #[.int .i64 k, .int .i64 n, .string t], .bool true]) w)) := by have q := rnext_any h.rw; rw [hl] at q; exact q
  have H := Lib.hid h
  have HG := Lib.hid hi.gd
  have HLF : Hid (∀ W, DJ W jb rb g s → Calls Tryz.prog 170 #[.pointer (some ⟨rb, 0, none⟩)] W (IsI (left s.l) W)) := fun W q => rleft_is q.rw hi.gd
  have HLB := Lib.hid (show 0 ≤ left s.l ∧ left s.l ≤ 2048 by have q1 := left_bd hi.gd.all; have q2 := hi.gd.len; omega)
  have mixed : Tryz.prog.follows .mixedOrders = true := by kernel_rfl
  have d1 : decide (s.e ≤ now) = false := by simp; omega
  have d2 : decide (s.t 2 ≤ s.n) = false := by simp; omega
  have HKK := Lib.hid (show dk s = s.k from if_neg (by omega))
  have d4 : (s.c == 2) = false := by simp; omega
  have d4b : (s.c == 1) = true := by simpa using h4
  have d5 : decide (s.t 4 ≤ s.k) = false := by simp; omega
  clear h hi hl
  go_enter Tryz.func118, Tryz.ntmps118
  go_wp2_with fail
  refine HX.out.mono ?_
  rintro e w1 ⟨rfl, hb⟩
  have hb2 := hb.alloc hb.size (.cells #[.int .i64 k, .int .i64 n, .string t] 57)
  have HB := Lib.hid hb2
  have hj := H.out.below hb2
  have c0 : (w1.alloc (.cells #[.int .i64 k, .int .i64 n, .string t] 57)).cell? ⟨jb, 2, none⟩ = some (.int .i64 (s.t 2)) := hj.cell 2
  have c4 : (w1.alloc (.cells #[.int .i64 k, .int .i64 n, .string t] 57)).cell? ⟨jb, 4, none⟩ = some (.int .i64 (s.t 4)) := hj.cell 4
  have c6 : (w1.alloc (.cells #[.int .i64 k, .int .i64 n, .string t] 57)).cell? ⟨jb, 6, none⟩ = some (.int .i64 (s.t 6)) := hj.cell 6
  have c8b : (w1.alloc (.cells #[.int .i64 k, .int .i64 n, .string t] 57)).cell? ⟨jb, 8, none⟩ = some (.pointer (some ⟨rb, 0, none⟩)) := hj.cell 8
  have c9 : (w1.alloc (.cells #[.int .i64 k, .int .i64 n, .string t] 57)).cell? ⟨jb, 9, none⟩ = some (.int .i64 s.e) := hj.cell 9
  have c10 : (w1.alloc (.cells #[.int .i64 k, .int .i64 n, .string t] 57)).cell? ⟨jb, 10, none⟩ = some (.int .i64 s.n) := hj.cell 10
  have c11 : (w1.alloc (.cells #[.int .i64 k, .int .i64 n, .string t] 57)).cell? ⟨jb, 11, none⟩ = some (.int .i64 s.c) := hj.cell 11
  have c12 : (w1.alloc (.cells #[.int .i64 k, .int .i64 n, .string t] 57)).cell? ⟨jb, 12, none⟩ = some (.int .i64 (dk s)) := hj.cell 12
  rw [HKK.out] at c12
  obtain ⟨v0, v1, v2⟩ := (AB.new w1 k n t).cells
  have HJ := Lib.hid hj
  clear hb hb2 hj HX c8 H
  go_wp2_with fail
  generalize w1.alloc (.cells #[.int .i64 k, .int .i64 n, .string t] 57) = W at *
  generalize w1.heap.size = vb at *
  go_quiet (fail)
  go_wp2_with fail
  go_quiet (fail)
  go_wp2_with fail
  go_quiet (fail)
  go_wp2_with fail
  go_ret
  exact ⟨rfl, by first | exact HB.out | exact below_dN HB.out _ | exact below_dN (below_dN HB.out _) _ | exact below_dN (below_dN (below_dN HB.out _) _) _⟩
set_option maxHeartbeats 2000000 in
theorem rf_loc1_a {w : World} {jb rb g : Nat} {s : Jb} (h : DJ w jb rb g s) (hi : Inv s) (now : Int) {k n : Int} {t : ByteArray} {l : List Ak} (hl : s.l = ⟨k, n, t⟩ :: l) (h1 : now < s.e) (h2 : s.n < s.t 2) (h4 : s.c = 1) (h5 : s.t 4 ≤ s.k) (h6 : (k == 1) = true) : Calls Tryz.prog 118 #[.pointer (some ⟨jb, 0, none⟩), .int .i64 now] w (VB (.int .i64 2) w) := by
  have c8 : w.cell? ⟨jb, 8, none⟩ = some (.pointer (some ⟨rb, 0, none⟩)) := h.cell 8
  have HX : Hid (Calls Tryz.prog 169 #[.pointer (some ⟨rb, 0, none⟩)] w (VB (.tuple #[.agg #[.int .i64 k, .int .i64 n, .string t], .bool true]) w)) := by have q := rnext_any h.rw; rw [hl] at q; exact q
  have H := Lib.hid h
  have HG := Lib.hid hi.gd
  have HLF : Hid (∀ W, DJ W jb rb g s → Calls Tryz.prog 170 #[.pointer (some ⟨rb, 0, none⟩)] W (IsI (left s.l) W)) := fun W q => rleft_is q.rw hi.gd
  have HLB := Lib.hid (show 0 ≤ left s.l ∧ left s.l ≤ 2048 by have q1 := left_bd hi.gd.all; have q2 := hi.gd.len; omega)
  have mixed : Tryz.prog.follows .mixedOrders = true := by kernel_rfl
  have d1 : decide (s.e ≤ now) = false := by simp; omega
  have d2 : decide (s.t 2 ≤ s.n) = false := by simp; omega
  have HKK := Lib.hid (show dk s = s.k from if_neg (by omega))
  have d4 : (s.c == 2) = false := by simp; omega
  have d4b : (s.c == 1) = true := by simpa using h4
  have d5 : decide (s.t 4 ≤ s.k) = true := by simpa using h5
  clear h hi hl
  go_enter Tryz.func118, Tryz.ntmps118
  go_wp2_with fail
  refine HX.out.mono ?_
  rintro e w1 ⟨rfl, hb⟩
  have hb2 := hb.alloc hb.size (.cells #[.int .i64 k, .int .i64 n, .string t] 57)
  have HB := Lib.hid hb2
  have hj := H.out.below hb2
  have c0 : (w1.alloc (.cells #[.int .i64 k, .int .i64 n, .string t] 57)).cell? ⟨jb, 2, none⟩ = some (.int .i64 (s.t 2)) := hj.cell 2
  have c4 : (w1.alloc (.cells #[.int .i64 k, .int .i64 n, .string t] 57)).cell? ⟨jb, 4, none⟩ = some (.int .i64 (s.t 4)) := hj.cell 4
  have c6 : (w1.alloc (.cells #[.int .i64 k, .int .i64 n, .string t] 57)).cell? ⟨jb, 6, none⟩ = some (.int .i64 (s.t 6)) := hj.cell 6
  have c8b : (w1.alloc (.cells #[.int .i64 k, .int .i64 n, .string t] 57)).cell? ⟨jb, 8, none⟩ = some (.pointer (some ⟨rb, 0, none⟩)) := hj.cell 8
  have c9 : (w1.alloc (.cells #[.int .i64 k, .int .i64 n, .string t] 57)).cell? ⟨jb, 9, none⟩ = some (.int .i64 s.e) := hj.cell 9
  have c10 : (w1.alloc (.cells #[.int .i64 k, .int .i64 n, .string t] 57)).cell? ⟨jb, 10, none⟩ = some (.int .i64 s.n) := hj.cell 10
  have c11 : (w1.alloc (.cells #[.int .i64 k, .int .i64 n, .string t] 57)).cell? ⟨jb, 11, none⟩ = some (.int .i64 s.c) := hj.cell 11
  have c12 : (w1.alloc (.cells #[.int .i64 k, .int .i64 n, .string t] 57)).cell? ⟨jb, 12, none⟩ = some (.int .i64 (dk s)) := hj.cell 12
  rw [HKK.out] at c12
  obtain ⟨v0, v1, v2⟩ := (AB.new w1 k n t).cells
  have HJ := Lib.hid hj
  clear hb hb2 hj HX c8 H
  go_wp2_with fail
  generalize w1.alloc (.cells #[.int .i64 k, .int .i64 n, .string t] 57) = W at *
  generalize w1.heap.size = vb at *
  go_quiet (fail)
  go_wp2_with fail
  go_quiet (fail)
  go_wp2_with fail
  go_quiet (fail)
  go_wp2_with fail
  go_ret
  exact ⟨rfl, by first | exact HB.out | exact below_dN HB.out _ | exact below_dN (below_dN HB.out _) _ | exact below_dN (below_dN (below_dN HB.out _) _) _⟩
set_option maxHeartbeats 2000000 in
theorem rf_loc2_a {w : World} {jb rb g : Nat} {s : Jb} (h : DJ w jb rb g s) (hi : Inv s) (now : Int) {k n : Int} {t : ByteArray} {l : List Ak} (hl : s.l = ⟨k, n, t⟩ :: l) (h1 : now < s.e) (h2 : s.n < s.t 2) (h4 : s.c = 1) (h5 : s.t 4 ≤ s.k) (h6 : k ≠ 1) : Calls Tryz.prog 118 #[.pointer (some ⟨jb, 0, none⟩), .int .i64 now] w (VB (.int .i64 0) w) := by
  have c8 : w.cell? ⟨jb, 8, none⟩ = some (.pointer (some ⟨rb, 0, none⟩)) := h.cell 8
  have HX : Hid (Calls Tryz.prog 169 #[.pointer (some ⟨rb, 0, none⟩)] w (VB (.tuple #[.agg #[.int .i64 k, .int .i64 n, .string t], .bool true]) w)) := by have q := rnext_any h.rw; rw [hl] at q; exact q
  have H := Lib.hid h
  have HG := Lib.hid hi.gd
  have HLF : Hid (∀ W, DJ W jb rb g s → Calls Tryz.prog 170 #[.pointer (some ⟨rb, 0, none⟩)] W (IsI (left s.l) W)) := fun W q => rleft_is q.rw hi.gd
  have HLB := Lib.hid (show 0 ≤ left s.l ∧ left s.l ≤ 2048 by have q1 := left_bd hi.gd.all; have q2 := hi.gd.len; omega)
  have mixed : Tryz.prog.follows .mixedOrders = true := by kernel_rfl
  have d1 : decide (s.e ≤ now) = false := by simp; omega
  have d2 : decide (s.t 2 ≤ s.n) = false := by simp; omega
  have HKK := Lib.hid (show dk s = s.k from if_neg (by omega))
  have d4 : (s.c == 2) = false := by simp; omega
  have d4b : (s.c == 1) = true := by simpa using h4
  have d5 : decide (s.t 4 ≤ s.k) = true := by simpa using h5
  have d6 : (k == 1) = false := by simpa using h6
  clear h hi hl
  go_enter Tryz.func118, Tryz.ntmps118
  go_wp2_with fail
  refine HX.out.mono ?_
  rintro e w1 ⟨rfl, hb⟩
  have hb2 := hb.alloc hb.size (.cells #[.int .i64 k, .int .i64 n, .string t] 57)
  have HB := Lib.hid hb2
  have hj := H.out.below hb2
  have c0 : (w1.alloc (.cells #[.int .i64 k, .int .i64 n, .string t] 57)).cell? ⟨jb, 2, none⟩ = some (.int .i64 (s.t 2)) := hj.cell 2
  have c4 : (w1.alloc (.cells #[.int .i64 k, .int .i64 n, .string t] 57)).cell? ⟨jb, 4, none⟩ = some (.int .i64 (s.t 4)) := hj.cell 4
  have c6 : (w1.alloc (.cells #[.int .i64 k, .int .i64 n, .string t] 57)).cell? ⟨jb, 6, none⟩ = some (.int .i64 (s.t 6)) := hj.cell 6
  have c8b : (w1.alloc (.cells #[.int .i64 k, .int .i64 n, .string t] 57)).cell? ⟨jb, 8, none⟩ = some (.pointer (some ⟨rb, 0, none⟩)) := hj.cell 8
  have c9 : (w1.alloc (.cells #[.int .i64 k, .int .i64 n, .string t] 57)).cell? ⟨jb, 9, none⟩ = some (.int .i64 s.e) := hj.cell 9
  have c10 : (w1.alloc (.cells #[.int .i64 k, .int .i64 n, .string t] 57)).cell? ⟨jb, 10, none⟩ = some (.int .i64 s.n) := hj.cell 10
  have c11 : (w1.alloc (.cells #[.int .i64 k, .int .i64 n, .string t] 57)).cell? ⟨jb, 11, none⟩ = some (.int .i64 s.c) := hj.cell 11
  have c12 : (w1.alloc (.cells #[.int .i64 k, .int .i64 n, .string t] 57)).cell? ⟨jb, 12, none⟩ = some (.int .i64 (dk s)) := hj.cell 12
  rw [HKK.out] at c12
  obtain ⟨v0, v1, v2⟩ := (AB.new w1 k n t).cells
  have HJ := Lib.hid hj
  clear hb hb2 hj HX c8 H
  go_wp2_with fail
  generalize w1.alloc (.cells #[.int .i64 k, .int .i64 n, .string t] 57) = W at *
  generalize w1.heap.size = vb at *
  go_quiet (fail)
  go_wp2_with fail
  go_quiet (fail)
  go_wp2_with fail
  go_quiet (fail)
  go_wp2_with fail
  go_ret
  exact ⟨rfl, by first | exact HB.out | exact below_dN HB.out _ | exact below_dN (below_dN HB.out _) _ | exact below_dN (below_dN (below_dN HB.out _) _) _⟩
set_option maxHeartbeats 2000000 in
theorem rf_glob_b {w : World} {jb rb g : Nat} {s : Jb} (h : DJ w jb rb g s) (hi : Inv s) (now : Int) {k n : Int} {t : ByteArray} {l : List Ak} (hl : s.l = ⟨k, n, t⟩ :: l) (h1 : now < s.e) (h2 : s.t 2 ≤ s.n) (h3 : ¬ 0 < left s.l) (h4 : s.c = 2) (h5 : s.t 6 ≤ s.k) : Calls Tryz.prog 118 #[.pointer (some ⟨jb, 0, none⟩), .int .i64 now] w (VB (.int .i64 2) w) := by
  have c8 : w.cell? ⟨jb, 8, none⟩ = some (.pointer (some ⟨rb, 0, none⟩)) := h.cell 8
  have HX : Hid (Calls Tryz.prog 169 #[.pointer (some ⟨rb, 0, none⟩)] w (VB (.tuple #[.agg #[.int .i64 k, .int .i64 n, .string t], .bool true]) w)) := by have q := rnext_any h.rw; rw [hl] at q; exact q
  have H := Lib.hid h
  have HG := Lib.hid hi.gd
  have HLF : Hid (∀ W, DJ W jb rb g s → Calls Tryz.prog 170 #[.pointer (some ⟨rb, 0, none⟩)] W (IsI (left s.l) W)) := fun W q => rleft_is q.rw hi.gd
  have HLB := Lib.hid (show 0 ≤ left s.l ∧ left s.l ≤ 2048 by have q1 := left_bd hi.gd.all; have q2 := hi.gd.len; omega)
  have mixed : Tryz.prog.follows .mixedOrders = true := by kernel_rfl
  have d1 : decide (s.e ≤ now) = false := by simp; omega
  have d2 : decide (s.t 2 ≤ s.n) = true := by simpa using h2
  have d3 : decide (0 < left s.l) = false := by simpa using h3
  have HKK := Lib.hid (show dk s = s.k from if_neg (by omega))
  have d4 : (s.c == 2) = true := by simpa using h4
  have d5 : decide (s.t 6 ≤ s.k) = true := by simpa using h5
  clear h hi hl
  go_enter Tryz.func118, Tryz.ntmps118
  go_wp2_with fail
  refine HX.out.mono ?_
  rintro e w1 ⟨rfl, hb⟩
  have hb2 := hb.alloc hb.size (.cells #[.int .i64 k, .int .i64 n, .string t] 57)
  have HB := Lib.hid hb2
  have hj := H.out.below hb2
  have c0 : (w1.alloc (.cells #[.int .i64 k, .int .i64 n, .string t] 57)).cell? ⟨jb, 2, none⟩ = some (.int .i64 (s.t 2)) := hj.cell 2
  have c4 : (w1.alloc (.cells #[.int .i64 k, .int .i64 n, .string t] 57)).cell? ⟨jb, 4, none⟩ = some (.int .i64 (s.t 4)) := hj.cell 4
  have c6 : (w1.alloc (.cells #[.int .i64 k, .int .i64 n, .string t] 57)).cell? ⟨jb, 6, none⟩ = some (.int .i64 (s.t 6)) := hj.cell 6
  have c8b : (w1.alloc (.cells #[.int .i64 k, .int .i64 n, .string t] 57)).cell? ⟨jb, 8, none⟩ = some (.pointer (some ⟨rb, 0, none⟩)) := hj.cell 8
  have c9 : (w1.alloc (.cells #[.int .i64 k, .int .i64 n, .string t] 57)).cell? ⟨jb, 9, none⟩ = some (.int .i64 s.e) := hj.cell 9
  have c10 : (w1.alloc (.cells #[.int .i64 k, .int .i64 n, .string t] 57)).cell? ⟨jb, 10, none⟩ = some (.int .i64 s.n) := hj.cell 10
  have c11 : (w1.alloc (.cells #[.int .i64 k, .int .i64 n, .string t] 57)).cell? ⟨jb, 11, none⟩ = some (.int .i64 s.c) := hj.cell 11
  have c12 : (w1.alloc (.cells #[.int .i64 k, .int .i64 n, .string t] 57)).cell? ⟨jb, 12, none⟩ = some (.int .i64 (dk s)) := hj.cell 12
  rw [HKK.out] at c12
  obtain ⟨v0, v1, v2⟩ := (AB.new w1 k n t).cells
  have HJ := Lib.hid hj
  clear hb hb2 hj HX c8 H
  go_wp2_with fail
  generalize w1.alloc (.cells #[.int .i64 k, .int .i64 n, .string t] 57) = W at *
  generalize w1.heap.size = vb at *
  go_quiet ((go_at_call 170; exact Calls.quiet_of_same ((HLF.out _ (HJ.out.drewN _)).mono fun _ _ ⟨e1, e2⟩ => ⟨e1, e2.symm⟩)))
  go_wp2_with fail
  go_quiet (fail)
  go_wp2_with fail
  go_ret
  exact ⟨rfl, by first | exact HB.out | exact below_dN HB.out _ | exact below_dN (below_dN HB.out _) _ | exact below_dN (below_dN (below_dN HB.out _) _) _⟩
set_option maxHeartbeats 2000000 in
theorem rf_glob0_b {w : World} {jb rb g : Nat} {s : Jb} (h : DJ w jb rb g s) (hi : Inv s) (now : Int) {k n : Int} {t : ByteArray} {l : List Ak} (hl : s.l = ⟨k, n, t⟩ :: l) (h1 : now < s.e) (h2 : s.t 2 ≤ s.n) (h3 : ¬ 0 < left s.l) (h4 : s.c = 2) (h5 : s.k < s.t 6) : Calls Tryz.prog 118 #[.pointer (some ⟨jb, 0, none⟩), .int .i64 now] w (VB (.int .i64 0) w) := by
  have c8 : w.cell? ⟨jb, 8, none⟩ = some (.pointer (some ⟨rb, 0, none⟩)) := h.cell 8
  have HX : Hid (Calls Tryz.prog 169 #[.pointer (some ⟨rb, 0, none⟩)] w (VB (.tuple #[.agg #[.int .i64 k, .int .i64 n, .string t], .bool true]) w)) := by have q := rnext_any h.rw; rw [hl] at q; exact q
  have H := Lib.hid h
  have HG := Lib.hid hi.gd
  have HLF : Hid (∀ W, DJ W jb rb g s → Calls Tryz.prog 170 #[.pointer (some ⟨rb, 0, none⟩)] W (IsI (left s.l) W)) := fun W q => rleft_is q.rw hi.gd
  have HLB := Lib.hid (show 0 ≤ left s.l ∧ left s.l ≤ 2048 by have q1 := left_bd hi.gd.all; have q2 := hi.gd.len; omega)
  have mixed : Tryz.prog.follows .mixedOrders = true := by kernel_rfl
  have d1 : decide (s.e ≤ now) = false := by simp; omega
  have d2 : decide (s.t 2 ≤ s.n) = true := by simpa using h2
  have d3 : decide (0 < left s.l) = false := by simpa using h3
  have HKK := Lib.hid (show dk s = s.k from if_neg (by omega))
  have d4 : (s.c == 2) = true := by simpa using h4
  have d4b : (s.c == 1) = false := by simp; omega
  have d5 : decide (s.t 6 ≤ s.k) = false := by simp; omega
  clear h hi hl
  go_enter Tryz.func118, Tryz.ntmps118
  go_wp2_with fail
  refine HX.out.mono ?_
  rintro e w1 ⟨rfl, hb⟩
  have hb2 := hb.alloc hb.size (.cells #[.int .i64 k, .int .i64 n, .string t] 57)
  have HB := Lib.hid hb2
  have hj := H.out.below hb2
  have c0 : (w1.alloc (.cells #[.int .i64 k, .int .i64 n, .string t] 57)).cell? ⟨jb, 2, none⟩ = some (.int .i64 (s.t 2)) := hj.cell 2
  have c4 : (w1.alloc (.cells #[.int .i64 k, .int .i64 n, .string t] 57)).cell? ⟨jb, 4, none⟩ = some (.int .i64 (s.t 4)) := hj.cell 4
  have c6 : (w1.alloc (.cells #[.int .i64 k, .int .i64 n, .string t] 57)).cell? ⟨jb, 6, none⟩ = some (.int .i64 (s.t 6)) := hj.cell 6
  have c8b : (w1.alloc (.cells #[.int .i64 k, .int .i64 n, .string t] 57)).cell? ⟨jb, 8, none⟩ = some (.pointer (some ⟨rb, 0, none⟩)) := hj.cell 8
  have c9 : (w1.alloc (.cells #[.int .i64 k, .int .i64 n, .string t] 57)).cell? ⟨jb, 9, none⟩ = some (.int .i64 s.e) := hj.cell 9
  have c10 : (w1.alloc (.cells #[.int .i64 k, .int .i64 n, .string t] 57)).cell? ⟨jb, 10, none⟩ = some (.int .i64 s.n) := hj.cell 10
  have c11 : (w1.alloc (.cells #[.int .i64 k, .int .i64 n, .string t] 57)).cell? ⟨jb, 11, none⟩ = some (.int .i64 s.c) := hj.cell 11
  have c12 : (w1.alloc (.cells #[.int .i64 k, .int .i64 n, .string t] 57)).cell? ⟨jb, 12, none⟩ = some (.int .i64 (dk s)) := hj.cell 12
  rw [HKK.out] at c12
  obtain ⟨v0, v1, v2⟩ := (AB.new w1 k n t).cells
  have HJ := Lib.hid hj
  clear hb hb2 hj HX c8 H
  go_wp2_with fail
  generalize w1.alloc (.cells #[.int .i64 k, .int .i64 n, .string t] 57) = W at *
  generalize w1.heap.size = vb at *
  go_quiet ((go_at_call 170; exact Calls.quiet_of_same ((HLF.out _ (HJ.out.drewN _)).mono fun _ _ ⟨e1, e2⟩ => ⟨e1, e2.symm⟩)))
  go_wp2_with fail
  go_quiet (fail)
  go_wp2_with fail
  go_quiet (fail)
  go_wp2_with fail
  go_ret
  exact ⟨rfl, by first | exact HB.out | exact below_dN HB.out _ | exact below_dN (below_dN HB.out _) _ | exact below_dN (below_dN (below_dN HB.out _) _) _⟩
set_option maxHeartbeats 2000000 in
theorem rf_oth_b {w : World} {jb rb g : Nat} {s : Jb} (h : DJ w jb rb g s) (hi : Inv s) (now : Int) {k n : Int} {t : ByteArray} {l : List Ak} (hl : s.l = ⟨k, n, t⟩ :: l) (h1 : now < s.e) (h2 : s.t 2 ≤ s.n) (h3 : ¬ 0 < left s.l) (h4 : s.c ≠ 2) (h5 : s.c ≠ 1) : Calls Tryz.prog 118 #[.pointer (some ⟨jb, 0, none⟩), .int .i64 now] w (VB (.int .i64 0) w) := by
  have c8 : w.cell? ⟨jb, 8, none⟩ = some (.pointer (some ⟨rb, 0, none⟩)) := h.cell 8
  have HX : Hid (Calls Tryz.prog 169 #[.pointer (some ⟨rb, 0, none⟩)] w (VB (.tuple #[.agg #[.int .i64 k, .int .i64 n, .string t], .bool true]) w)) := by have q := rnext_any h.rw; rw [hl] at q; exact q
  have H := Lib.hid h
  have HG := Lib.hid hi.gd
  have HLF : Hid (∀ W, DJ W jb rb g s → Calls Tryz.prog 170 #[.pointer (some ⟨rb, 0, none⟩)] W (IsI (left s.l) W)) := fun W q => rleft_is q.rw hi.gd
  have HLB := Lib.hid (show 0 ≤ left s.l ∧ left s.l ≤ 2048 by have q1 := left_bd hi.gd.all; have q2 := hi.gd.len; omega)
  have mixed : Tryz.prog.follows .mixedOrders = true := by kernel_rfl
  have d1 : decide (s.e ≤ now) = false := by simp; omega
  have d2 : decide (s.t 2 ≤ s.n) = true := by simpa using h2
  have d3 : decide (0 < left s.l) = false := by simpa using h3
  have d4 : (s.c == 2) = false := by simpa using h4
  have d4b : (s.c == 1) = false := by simpa using h5
  clear h hi hl
  go_enter Tryz.func118, Tryz.ntmps118
  go_wp2_with fail
  refine HX.out.mono ?_
  rintro e w1 ⟨rfl, hb⟩
  have hb2 := hb.alloc hb.size (.cells #[.int .i64 k, .int .i64 n, .string t] 57)
  have HB := Lib.hid hb2
  have hj := H.out.below hb2
  have c0 : (w1.alloc (.cells #[.int .i64 k, .int .i64 n, .string t] 57)).cell? ⟨jb, 2, none⟩ = some (.int .i64 (s.t 2)) := hj.cell 2
  have c4 : (w1.alloc (.cells #[.int .i64 k, .int .i64 n, .string t] 57)).cell? ⟨jb, 4, none⟩ = some (.int .i64 (s.t 4)) := hj.cell 4
  have c6 : (w1.alloc (.cells #[.int .i64 k, .int .i64 n, .string t] 57)).cell? ⟨jb, 6, none⟩ = some (.int .i64 (s.t 6)) := hj.cell 6
  have c8b : (w1.alloc (.cells #[.int .i64 k, .int .i64 n, .string t] 57)).cell? ⟨jb, 8, none⟩ = some (.pointer (some ⟨rb, 0, none⟩)) := hj.cell 8
  have c9 : (w1.alloc (.cells #[.int .i64 k, .int .i64 n, .string t] 57)).cell? ⟨jb, 9, none⟩ = some (.int .i64 s.e) := hj.cell 9
  have c10 : (w1.alloc (.cells #[.int .i64 k, .int .i64 n, .string t] 57)).cell? ⟨jb, 10, none⟩ = some (.int .i64 s.n) := hj.cell 10
  have c11 : (w1.alloc (.cells #[.int .i64 k, .int .i64 n, .string t] 57)).cell? ⟨jb, 11, none⟩ = some (.int .i64 s.c) := hj.cell 11
  have c12 : (w1.alloc (.cells #[.int .i64 k, .int .i64 n, .string t] 57)).cell? ⟨jb, 12, none⟩ = some (.int .i64 (dk s)) := hj.cell 12
  obtain ⟨v0, v1, v2⟩ := (AB.new w1 k n t).cells
  have HJ := Lib.hid hj
  clear hb hb2 hj HX c8 H
  go_wp2_with fail
  generalize w1.alloc (.cells #[.int .i64 k, .int .i64 n, .string t] 57) = W at *
  generalize w1.heap.size = vb at *
  go_quiet ((go_at_call 170; exact Calls.quiet_of_same ((HLF.out _ (HJ.out.drewN _)).mono fun _ _ ⟨e1, e2⟩ => ⟨e1, e2.symm⟩)))
  go_wp2_with fail
  go_quiet (fail)
  go_wp2_with fail
  go_quiet (fail)
  go_wp2_with fail
  go_ret
  exact ⟨rfl, by first | exact HB.out | exact below_dN HB.out _ | exact below_dN (below_dN HB.out _) _ | exact below_dN (below_dN (below_dN HB.out _) _) _⟩
set_option maxHeartbeats 2000000 in
theorem rf_loc0_b {w : World} {jb rb g : Nat} {s : Jb} (h : DJ w jb rb g s) (hi : Inv s) (now : Int) {k n : Int} {t : ByteArray} {l : List Ak} (hl : s.l = ⟨k, n, t⟩ :: l) (h1 : now < s.e) (h2 : s.t 2 ≤ s.n) (h3 : ¬ 0 < left s.l) (h4 : s.c = 1) (h5 : s.k < s.t 4) : Calls Tryz.prog 118 #[.pointer (some ⟨jb, 0, none⟩), .int .i64 now] w (VB (.int .i64 0) w) := by
  have c8 : w.cell? ⟨jb, 8, none⟩ = some (.pointer (some ⟨rb, 0, none⟩)) := h.cell 8
  have HX : Hid (Calls Tryz.prog 169 #[.pointer (some ⟨rb, 0, none⟩)] w (VB (.tuple #[.agg #[.int .i64 k, .int .i64 n, .string t], .bool true]) w)) := by have q := rnext_any h.rw; rw [hl] at q; exact q
  have H := Lib.hid h
  have HG := Lib.hid hi.gd
  have HLF : Hid (∀ W, DJ W jb rb g s → Calls Tryz.prog 170 #[.pointer (some ⟨rb, 0, none⟩)] W (IsI (left s.l) W)) := fun W q => rleft_is q.rw hi.gd
  have HLB := Lib.hid (show 0 ≤ left s.l ∧ left s.l ≤ 2048 by have q1 := left_bd hi.gd.all; have q2 := hi.gd.len; omega)
  have mixed : Tryz.prog.follows .mixedOrders = true := by kernel_rfl
  have d1 : decide (s.e ≤ now) = false := by simp; omega
  have d2 : decide (s.t 2 ≤ s.n) = true := by simpa using h2
  have d3 : decide (0 < left s.l) = false := by simpa using h3
  have HKK := Lib.hid (show dk s = s.k from if_neg (by omega))
  have d4 : (s.c == 2) = false := by simp; omega
  have d4b : (s.c == 1) = true := by simpa using h4
  have d5 : decide (s.t 4 ≤ s.k) = false := by simp; omega
  clear h hi hl
  go_enter Tryz.func118, Tryz.ntmps118
  go_wp2_with fail
  refine HX.out.mono ?_
  rintro e w1 ⟨rfl, hb⟩
  have hb2 := hb.alloc hb.size (.cells #[.int .i64 k, .int .i64 n, .string t] 57)
  have HB := Lib.hid hb2
  have hj := H.out.below hb2
  have c0 : (w1.alloc (.cells #[.int .i64 k, .int .i64 n, .string t] 57)).cell? ⟨jb, 2, none⟩ = some (.int .i64 (s.t 2)) := hj.cell 2
  have c4 : (w1.alloc (.cells #[.int .i64 k, .int .i64 n, .string t] 57)).cell? ⟨jb, 4, none⟩ = some (.int .i64 (s.t 4)) := hj.cell 4
  have c6 : (w1.alloc (.cells #[.int .i64 k, .int .i64 n, .string t] 57)).cell? ⟨jb, 6, none⟩ = some (.int .i64 (s.t 6)) := hj.cell 6
  have c8b : (w1.alloc (.cells #[.int .i64 k, .int .i64 n, .string t] 57)).cell? ⟨jb, 8, none⟩ = some (.pointer (some ⟨rb, 0, none⟩)) := hj.cell 8
  have c9 : (w1.alloc (.cells #[.int .i64 k, .int .i64 n, .string t] 57)).cell? ⟨jb, 9, none⟩ = some (.int .i64 s.e) := hj.cell 9
  have c10 : (w1.alloc (.cells #[.int .i64 k, .int .i64 n, .string t] 57)).cell? ⟨jb, 10, none⟩ = some (.int .i64 s.n) := hj.cell 10
  have c11 : (w1.alloc (.cells #[.int .i64 k, .int .i64 n, .string t] 57)).cell? ⟨jb, 11, none⟩ = some (.int .i64 s.c) := hj.cell 11
  have c12 : (w1.alloc (.cells #[.int .i64 k, .int .i64 n, .string t] 57)).cell? ⟨jb, 12, none⟩ = some (.int .i64 (dk s)) := hj.cell 12
  rw [HKK.out] at c12
  obtain ⟨v0, v1, v2⟩ := (AB.new w1 k n t).cells
  have HJ := Lib.hid hj
  clear hb hb2 hj HX c8 H
  go_wp2_with fail
  generalize w1.alloc (.cells #[.int .i64 k, .int .i64 n, .string t] 57) = W at *
  generalize w1.heap.size = vb at *
  go_quiet ((go_at_call 170; exact Calls.quiet_of_same ((HLF.out _ (HJ.out.drewN _)).mono fun _ _ ⟨e1, e2⟩ => ⟨e1, e2.symm⟩)))
  go_wp2_with fail
  go_quiet (fail)
  go_wp2_with fail
  go_quiet (fail)
  go_wp2_with fail
  go_ret
  exact ⟨rfl, by first | exact HB.out | exact below_dN HB.out _ | exact below_dN (below_dN HB.out _) _ | exact below_dN (below_dN (below_dN HB.out _) _) _⟩
set_option maxHeartbeats 2000000 in
theorem rf_loc1_b {w : World} {jb rb g : Nat} {s : Jb} (h : DJ w jb rb g s) (hi : Inv s) (now : Int) {k n : Int} {t : ByteArray} {l : List Ak} (hl : s.l = ⟨k, n, t⟩ :: l) (h1 : now < s.e) (h2 : s.t 2 ≤ s.n) (h3 : ¬ 0 < left s.l) (h4 : s.c = 1) (h5 : s.t 4 ≤ s.k) (h6 : (k == 1) = true) : Calls Tryz.prog 118 #[.pointer (some ⟨jb, 0, none⟩), .int .i64 now] w (VB (.int .i64 2) w) := by
  have c8 : w.cell? ⟨jb, 8, none⟩ = some (.pointer (some ⟨rb, 0, none⟩)) := h.cell 8
  have HX : Hid (Calls Tryz.prog 169 #[.pointer (some ⟨rb, 0, none⟩)] w (VB (.tuple #[.agg #[.int .i64 k, .int .i64 n, .string t], .bool true]) w)) := by have q := rnext_any h.rw; rw [hl] at q; exact q
  have H := Lib.hid h
  have HG := Lib.hid hi.gd
  have HLF : Hid (∀ W, DJ W jb rb g s → Calls Tryz.prog 170 #[.pointer (some ⟨rb, 0, none⟩)] W (IsI (left s.l) W)) := fun W q => rleft_is q.rw hi.gd
  have HLB := Lib.hid (show 0 ≤ left s.l ∧ left s.l ≤ 2048 by have q1 := left_bd hi.gd.all; have q2 := hi.gd.len; omega)
  have mixed : Tryz.prog.follows .mixedOrders = true := by kernel_rfl
  have d1 : decide (s.e ≤ now) = false := by simp; omega
  have d2 : decide (s.t 2 ≤ s.n) = true := by simpa using h2
  have d3 : decide (0 < left s.l) = false := by simpa using h3
  have HKK := Lib.hid (show dk s = s.k from if_neg (by omega))
  have d4 : (s.c == 2) = false := by simp; omega
  have d4b : (s.c == 1) = true := by simpa using h4
  have d5 : decide (s.t 4 ≤ s.k) = true := by simpa using h5
  clear h hi hl
  go_enter Tryz.func118, Tryz.ntmps118
  go_wp2_with fail
  refine HX.out.mono ?_
  rintro e w1 ⟨rfl, hb⟩
  have hb2 := hb.alloc hb.size (.cells #[.int .i64 k, .int .i64 n, .string t] 57)
  have HB := Lib.hid hb2
  have hj := H.out.below hb2
  have c0 : (w1.alloc (.cells #[.int .i64 k, .int .i64 n, .string t] 57)).cell? ⟨jb, 2, none⟩ = some (.int .i64 (s.t 2)) := hj.cell 2
  have c4 : (w1.alloc (.cells #[.int .i64 k, .int .i64 n, .string t] 57)).cell? ⟨jb, 4, none⟩ = some (.int .i64 (s.t 4)) := hj.cell 4
  have c6 : (w1.alloc (.cells #[.int .i64 k, .int .i64 n, .string t] 57)).cell? ⟨jb, 6, none⟩ = some (.int .i64 (s.t 6)) := hj.cell 6
  have c8b : (w1.alloc (.cells #[.int .i64 k, .int .i64 n, .string t] 57)).cell? ⟨jb, 8, none⟩ = some (.pointer (some ⟨rb, 0, none⟩)) := hj.cell 8
  have c9 : (w1.alloc (.cells #[.int .i64 k, .int .i64 n, .string t] 57)).cell? ⟨jb, 9, none⟩ = some (.int .i64 s.e) := hj.cell 9
  have c10 : (w1.alloc (.cells #[.int .i64 k, .int .i64 n, .string t] 57)).cell? ⟨jb, 10, none⟩ = some (.int .i64 s.n) := hj.cell 10
  have c11 : (w1.alloc (.cells #[.int .i64 k, .int .i64 n, .string t] 57)).cell? ⟨jb, 11, none⟩ = some (.int .i64 s.c) := hj.cell 11
  have c12 : (w1.alloc (.cells #[.int .i64 k, .int .i64 n, .string t] 57)).cell? ⟨jb, 12, none⟩ = some (.int .i64 (dk s)) := hj.cell 12
  rw [HKK.out] at c12
  obtain ⟨v0, v1, v2⟩ := (AB.new w1 k n t).cells
  have HJ := Lib.hid hj
  clear hb hb2 hj HX c8 H
  go_wp2_with fail
  generalize w1.alloc (.cells #[.int .i64 k, .int .i64 n, .string t] 57) = W at *
  generalize w1.heap.size = vb at *
  go_quiet ((go_at_call 170; exact Calls.quiet_of_same ((HLF.out _ (HJ.out.drewN _)).mono fun _ _ ⟨e1, e2⟩ => ⟨e1, e2.symm⟩)))
  go_wp2_with fail
  go_quiet (fail)
  go_wp2_with fail
  go_quiet (fail)
  go_wp2_with fail
  go_ret
  exact ⟨rfl, by first | exact HB.out | exact below_dN HB.out _ | exact below_dN (below_dN HB.out _) _ | exact below_dN (below_dN (below_dN HB.out _) _) _⟩
set_option maxHeartbeats 2000000 in
theorem rf_loc2_b {w : World} {jb rb g : Nat} {s : Jb} (h : DJ w jb rb g s) (hi : Inv s) (now : Int) {k n : Int} {t : ByteArray} {l : List Ak} (hl : s.l = ⟨k, n, t⟩ :: l) (h1 : now < s.e) (h2 : s.t 2 ≤ s.n) (h3 : ¬ 0 < left s.l) (h4 : s.c = 1) (h5 : s.t 4 ≤ s.k) (h6 : k ≠ 1) : Calls Tryz.prog 118 #[.pointer (some ⟨jb, 0, none⟩), .int .i64 now] w (VB (.int .i64 0) w) := by
  have c8 : w.cell? ⟨jb, 8, none⟩ = some (.pointer (some ⟨rb, 0, none⟩)) := h.cell 8
  have HX : Hid (Calls Tryz.prog 169 #[.pointer (some ⟨rb, 0, none⟩)] w (VB (.tuple #[.agg #[.int .i64 k, .int .i64 n, .string t], .bool true]) w)) := by have q := rnext_any h.rw; rw [hl] at q; exact q
  have H := Lib.hid h
  have HG := Lib.hid hi.gd
  have HLF : Hid (∀ W, DJ W jb rb g s → Calls Tryz.prog 170 #[.pointer (some ⟨rb, 0, none⟩)] W (IsI (left s.l) W)) := fun W q => rleft_is q.rw hi.gd
  have HLB := Lib.hid (show 0 ≤ left s.l ∧ left s.l ≤ 2048 by have q1 := left_bd hi.gd.all; have q2 := hi.gd.len; omega)
  have mixed : Tryz.prog.follows .mixedOrders = true := by kernel_rfl
  have d1 : decide (s.e ≤ now) = false := by simp; omega
  have d2 : decide (s.t 2 ≤ s.n) = true := by simpa using h2
  have d3 : decide (0 < left s.l) = false := by simpa using h3
  have HKK := Lib.hid (show dk s = s.k from if_neg (by omega))
  have d4 : (s.c == 2) = false := by simp; omega
  have d4b : (s.c == 1) = true := by simpa using h4
  have d5 : decide (s.t 4 ≤ s.k) = true := by simpa using h5
  have d6 : (k == 1) = false := by simpa using h6
  clear h hi hl
  go_enter Tryz.func118, Tryz.ntmps118
  go_wp2_with fail
  refine HX.out.mono ?_
  rintro e w1 ⟨rfl, hb⟩
  have hb2 := hb.alloc hb.size (.cells #[.int .i64 k, .int .i64 n, .string t] 57)
  have HB := Lib.hid hb2
  have hj := H.out.below hb2
  have c0 : (w1.alloc (.cells #[.int .i64 k, .int .i64 n, .string t] 57)).cell? ⟨jb, 2, none⟩ = some (.int .i64 (s.t 2)) := hj.cell 2
  have c4 : (w1.alloc (.cells #[.int .i64 k, .int .i64 n, .string t] 57)).cell? ⟨jb, 4, none⟩ = some (.int .i64 (s.t 4)) := hj.cell 4
  have c6 : (w1.alloc (.cells #[.int .i64 k, .int .i64 n, .string t] 57)).cell? ⟨jb, 6, none⟩ = some (.int .i64 (s.t 6)) := hj.cell 6
  have c8b : (w1.alloc (.cells #[.int .i64 k, .int .i64 n, .string t] 57)).cell? ⟨jb, 8, none⟩ = some (.pointer (some ⟨rb, 0, none⟩)) := hj.cell 8
  have c9 : (w1.alloc (.cells #[.int .i64 k, .int .i64 n, .string t] 57)).cell? ⟨jb, 9, none⟩ = some (.int .i64 s.e) := hj.cell 9
  have c10 : (w1.alloc (.cells #[.int .i64 k, .int .i64 n, .string t] 57)).cell? ⟨jb, 10, none⟩ = some (.int .i64 s.n) := hj.cell 10
  have c11 : (w1.alloc (.cells #[.int .i64 k, .int .i64 n, .string t] 57)).cell? ⟨jb, 11, none⟩ = some (.int .i64 s.c) := hj.cell 11
  have c12 : (w1.alloc (.cells #[.int .i64 k, .int .i64 n, .string t] 57)).cell? ⟨jb, 12, none⟩ = some (.int .i64 (dk s)) := hj.cell 12
  rw [HKK.out] at c12
  obtain ⟨v0, v1, v2⟩ := (AB.new w1 k n t).cells
  have HJ := Lib.hid hj
  clear hb hb2 hj HX c8 H
  go_wp2_with fail
  generalize w1.alloc (.cells #[.int .i64 k, .int .i64 n, .string t] 57) = W at *
  generalize w1.heap.size = vb at *
  go_quiet ((go_at_call 170; exact Calls.quiet_of_same ((HLF.out _ (HJ.out.drewN _)).mono fun _ _ ⟨e1, e2⟩ => ⟨e1, e2.symm⟩)))
  go_wp2_with fail
  go_quiet (fail)
  go_wp2_with fail
  go_quiet (fail)
  go_wp2_with fail
  go_ret
  exact ⟨rfl, by first | exact HB.out | exact below_dN HB.out _ | exact below_dN (below_dN HB.out _) _ | exact below_dN (below_dN (below_dN HB.out _) _) _⟩
theorem rf_none {w : World} {jb rb g : Nat} {s : Jb} (h : DJ w jb rb g s) (now : Int) (hl : s.l = []) : Calls Tryz.prog 118 #[.pointer (some ⟨jb, 0, none⟩), .int .i64 now] w (VB (.int .i64 0) w) := by
  have c8 : w.cell? ⟨jb, 8, none⟩ = some (.pointer (some ⟨rb, 0, none⟩)) := h.cell 8
  have HX : Hid (Calls Tryz.prog 169 #[.pointer (some ⟨rb, 0, none⟩)] w (VB (.tuple #[.agg #[.int .i64 0, .int .i64 0, .string ⟨#[]⟩], .bool false]) w)) := by have q := rnext_any h.rw; rw [hl] at q; exact q
  clear h hl
  go_enter Tryz.func118, Tryz.ntmps118
  go_wp2_with fail
  refine HX.out.mono ?_
  rintro e w1 ⟨rfl, hb⟩
  have HB := Lib.hid (hb.alloc hb.size (.cells #[.int .i64 0, .int .i64 0, .string ⟨#[]⟩] 57))
  clear hb
  go_wp2_with fail
  go_ret
  exact ⟨rfl, HB.out⟩
theorem rjfault_any {w : World} {jb rb g : Nat} {s : Jb} (h : DJ w jb rb g s) (hi : Inv s) (now : Int) : Calls Tryz.prog 118 #[.pointer (some ⟨jb, 0, none⟩), .int .i64 now] w (VB (.int .i64 (fau s now)) w) := by
  unfold fau
  by_cases h0 : s.l = []
  · rw [if_pos h0]; exact rf_none h now h0
  rw [if_neg h0]
  obtain ⟨⟨k, n, t⟩, l, hl⟩ : ∃ x l, s.l = x :: l := List.exists_cons_of_ne_nil h0
  have hk : (nxt s.l).k = k := by rw [hl]; rfl
  rw [hk]
  by_cases h1 : s.e ≤ now
  · rw [if_pos h1]; exact rf_end h hi now hl h1
  rw [if_neg h1]
  by_cases h2 : s.t 2 ≤ s.n ∧ 0 < left s.l
  · rw [if_pos h2]; exact rf_bound h hi now hl (by omega) h2.1 h2.2
  rw [if_neg h2]
  by_cases h3 : s.n < s.t 2
  · by_cases h4 : s.c = 2
    · by_cases h5 : s.t 6 ≤ s.k
      · rw [if_pos ⟨h4, h5⟩]; exact rf_glob_a h hi now hl (by omega) h3 h4 h5
      · rw [if_neg (by omega), if_neg (by omega)]; exact rf_glob0_a h hi now hl (by omega) h3 h4 (by omega)
    rw [if_neg (by omega)]
    by_cases h5 : s.c = 1
    · by_cases h6 : s.t 4 ≤ s.k
      · by_cases h7 : k = 1
        · rw [if_pos ⟨h5, h6, h7⟩]; exact rf_loc1_a h hi now hl (by omega) h3 h5 h6 (by simpa using h7)
        · rw [if_neg (by omega)]; exact rf_loc2_a h hi now hl (by omega) h3 h5 h6 h7
      · rw [if_neg (by omega)]; exact rf_loc0_a h hi now hl (by omega) h3 h5 (by omega)
    · rw [if_neg (by omega)]; exact rf_oth_a h hi now hl (by omega) h3 h4 h5
  · have h2' : ¬ 0 < left s.l := by omega
    by_cases h4 : s.c = 2
    · by_cases h5 : s.t 6 ≤ s.k
      · rw [if_pos ⟨h4, h5⟩]; exact rf_glob_b h hi now hl (by omega) (by omega) h2' h4 h5
      · rw [if_neg (by omega), if_neg (by omega)]; exact rf_glob0_b h hi now hl (by omega) (by omega) h2' h4 (by omega)
    rw [if_neg (by omega)]
    by_cases h5 : s.c = 1
    · by_cases h6 : s.t 4 ≤ s.k
      · by_cases h7 : k = 1
        · rw [if_pos ⟨h5, h6, h7⟩]; exact rf_loc1_b h hi now hl (by omega) (by omega) h2' h5 h6 (by simpa using h7)
        · rw [if_neg (by omega)]; exact rf_loc2_b h hi now hl (by omega) (by omega) h2' h5 h6 h7
      · rw [if_neg (by omega)]; exact rf_loc0_b h hi now hl (by omega) (by omega) h2' h5 (by omega)
    · rw [if_neg (by omega)]; exact rf_oth_b h hi now hl (by omega) (by omega) h2' h4 h5
end Go.Proofs.YtkkmfpllgjoceaaGreat
