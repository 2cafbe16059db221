/- The program's job: Fault. -/
import Derived.Test.YtoggnofdgmhbmaaJobI
namespace Go.Proofs.Ytoggnofdgmhbmaa
open Go.RowKit Go.Sort Ac Jo
set_option linter.unusedVariables false

section
variable {w : World} {jb rb g : Nat} {s : Jb}
set_option maxHeartbeats 2000000 in
theorem pf_none (h : PJ w jb rb g s) (hi : Inv s) (now : Int) {k n : Int} {t : ByteArray} (hn : nv s.l = .tuple #[.agg #[.int .i64 k, .int .i64 n, .string t], .bool false]) : Calls Try.prog 24 #[.pointer (some ⟨jb, 0, none⟩), .int .i64 now] w (VB (.int .i64 0) w) := by
  have HX : Hid (Calls Try.prog 26 #[.pointer (some ⟨jb, 0, none⟩)] w (VB (.tuple #[.agg #[.int .i64 k, .int .i64 n, .string t], .bool false]) w)) := by have q := pj_next h; rw [hn] at q; exact q
  have H := Lib.hid h
  have HG := Lib.hid hi.gd
  have HLB := Lib.hid (show 0 ≤ left s.l ∧ left s.l ≤ 2048 by have q1 := left_bd hi.gd.all; have q2 := hi.gd.len; omega)
  clear h hi hn
  go_enter Try.func24, Try.ntmps24
  go_wp2_with fail
  refine HX.out.mono ?_
  rintro e w1 ⟨rfl, hb⟩
  have hb2 := hb.alloc hb.size (.cells #[.int .i64 k, .int .i64 n, .string t] 49)
  have hj := H.out.below hb2
  have HB := Lib.hid hb2
  have c9 : (w1.alloc (.cells #[.int .i64 k, .int .i64 n, .string t] 49)).cell? ⟨jb, 9, none⟩ = some (.int .i64 s.e) := hj.cell 9
  have HV := Lib.hid (AB.new w1 k n t)
  have HJ := Lib.hid hj
  clear hb hb2 hj HX H
  go_wp2_with fail
  go_ret
  exact ⟨rfl, HB.out⟩
set_option maxHeartbeats 2000000 in
theorem pf_late (h : PJ w jb rb g s) (hi : Inv s) (now : Int) {k n : Int} {t : ByteArray} (hn : nv s.l = .tuple #[.agg #[.int .i64 k, .int .i64 n, .string t], .bool true]) (h1 : s.e ≤ now) : Calls Try.prog 24 #[.pointer (some ⟨jb, 0, none⟩), .int .i64 now] w (VB (.int .i64 3) w) := by
  have HX : Hid (Calls Try.prog 26 #[.pointer (some ⟨jb, 0, none⟩)] w (VB (.tuple #[.agg #[.int .i64 k, .int .i64 n, .string t], .bool true]) w)) := by have q := pj_next h; rw [hn] at q; exact q
  have H := Lib.hid h
  have HG := Lib.hid hi.gd
  have HLB := Lib.hid (show 0 ≤ left s.l ∧ left s.l ≤ 2048 by have q1 := left_bd hi.gd.all; have q2 := hi.gd.len; omega)
  have d1 : decide (s.e ≤ now) = true := by simpa using h1
  clear h1
  clear h hi hn
  go_enter Try.func24, Try.ntmps24
  go_wp2_with fail
  refine HX.out.mono ?_
  rintro e w1 ⟨rfl, hb⟩
  have hb2 := hb.alloc hb.size (.cells #[.int .i64 k, .int .i64 n, .string t] 49)
  have hj := H.out.below hb2
  have HB := Lib.hid hb2
  have c9 : (w1.alloc (.cells #[.int .i64 k, .int .i64 n, .string t] 49)).cell? ⟨jb, 9, none⟩ = some (.int .i64 s.e) := hj.cell 9
  have HV := Lib.hid (AB.new w1 k n t)
  have HJ := Lib.hid hj
  clear hb hb2 hj HX H
  go_wp2_with fail
  go_ret
  exact ⟨rfl, HB.out⟩
set_option maxHeartbeats 2000000 in
theorem pf_over (h : PJ w jb rb g s) (hi : Inv s) (now : Int) {k n : Int} {t : ByteArray} (hn : nv s.l = .tuple #[.agg #[.int .i64 k, .int .i64 n, .string t], .bool true]) (h1 : now < s.e) (h2 : s.t 2 ≤ s.n) (h3 : 0 < left s.l) : Calls Try.prog 24 #[.pointer (some ⟨jb, 0, none⟩), .int .i64 now] w (VB (.int .i64 1) w) := by
  have HX : Hid (Calls Try.prog 26 #[.pointer (some ⟨jb, 0, none⟩)] w (VB (.tuple #[.agg #[.int .i64 k, .int .i64 n, .string t], .bool true]) w)) := by have q := pj_next h; rw [hn] at q; exact q
  have H := Lib.hid h
  have HG := Lib.hid hi.gd
  have HLB := Lib.hid (show 0 ≤ left s.l ∧ left s.l ≤ 2048 by have q1 := left_bd hi.gd.all; have q2 := hi.gd.len; omega)
  have d1 : decide (s.e ≤ now) = false := by simp; omega
  clear h1
  have d2 : decide (s.t 2 ≤ s.n) = true := by simpa using h2
  have d3 : decide (0 < left s.l) = true := by simpa using h3
  clear h2 h3
  clear h hi hn
  go_enter Try.func24, Try.ntmps24
  go_wp2_with fail
  refine HX.out.mono ?_
  rintro e w1 ⟨rfl, hb⟩
  have hb2 := hb.alloc hb.size (.cells #[.int .i64 k, .int .i64 n, .string t] 49)
  have hj := H.out.below hb2
  have HB := Lib.hid hb2
  have c9 : (w1.alloc (.cells #[.int .i64 k, .int .i64 n, .string t] 49)).cell? ⟨jb, 9, none⟩ = some (.int .i64 s.e) := hj.cell 9
  have HV := Lib.hid (AB.new w1 k n t)
  have HJ := Lib.hid hj
  clear hb hb2 hj HX H
  go_wp2_with fail
  clear c9
  have c11 : (w1.alloc (.cells #[.int .i64 k, .int .i64 n, .string t] 49)).cell? ⟨jb, 11, none⟩ = some (.int .i64 s.n) := HJ.out.cell 11
  have c3 : (w1.alloc (.cells #[.int .i64 k, .int .i64 n, .string t] 49)).cell? ⟨jb, 3, none⟩ = some (.int .i64 (s.t 2)) := HJ.out.cell 3
  have c0 : (w1.alloc (.cells #[.int .i64 k, .int .i64 n, .string t] 49)).cell? ⟨jb, 0, none⟩ = some (.pointer (some ⟨rb, 0, none⟩)) := HJ.out.cell 0
  generalize w1.alloc (.cells #[.int .i64 k, .int .i64 n, .string t] 49) = W at *
  generalize w1.heap.size = vb at *
  have k0 := cell_regrown c0; have k3 := cell_regrown c3; have k11 := cell_regrown c11
  have HGr : ∀ d os, PJ (grow (redrawn W d) os) jb rb g s := fun d os => HJ.out.below (below_regrown W d os)
  have C1 := Lib.hid (fun d os => Calls.regrown_of (left_any (HGr d os).rw HG.out))
  have mixed : Try.prog.follows .mixedOrders = true := by kernel_rfl
  clear HGr c0 c3 c11
  generalize s.t 2 = t2 at *
  generalize s.n = sn at *
  generalize left s.l = lf at *
  refine wp_region_quiet_below (by assumption) (by kernel_rfl) ?_
  repeat (quiet_step (first | (go_at_call 44; exact C1.out _ _)))
  refine wpQuiet_nil ?_
  intro _ hw'
  obtain ⟨⟨dq, osq⟩, hw''⟩ := hw'
  subst hw''
  have HF := Lib.hid (chn HB.out (below_regrown W dq osq))
  go_wp2_with fail
  go_ret
  exact ⟨rfl, HF.out⟩
set_option maxHeartbeats 2000000 in
theorem pf_lefttrue (h : PJ w jb rb g s) (hi : Inv s) (now : Int) {k n : Int} {t : ByteArray} (hn : nv s.l = .tuple #[.agg #[.int .i64 k, .int .i64 n, .string t], .bool true]) (h1 : now < s.e) (h2 : s.t 2 ≤ s.n) (h3 : ¬ 0 < left s.l) (hr : decide (s.c = 2 ∧ s.t 6 ≤ s.k ∨ s.c = 1 ∧ s.t 4 ≤ s.k ∧ k = 1) = true) : Calls Try.prog 24 #[.pointer (some ⟨jb, 0, none⟩), .int .i64 now] w (VB (.int .i64 2) w) := by
  have HX : Hid (Calls Try.prog 26 #[.pointer (some ⟨jb, 0, none⟩)] w (VB (.tuple #[.agg #[.int .i64 k, .int .i64 n, .string t], .bool true]) w)) := by have q := pj_next h; rw [hn] at q; exact q
  have H := Lib.hid h
  have HG := Lib.hid hi.gd
  have HLB := Lib.hid (show 0 ≤ left s.l ∧ left s.l ≤ 2048 by have q1 := left_bd hi.gd.all; have q2 := hi.gd.len; omega)
  have d1 : decide (s.e ≤ now) = false := by simp; omega
  clear h1
  have HR := Lib.hid hr
  have d2 : decide (s.t 2 ≤ s.n) = true := by simpa using h2
  have d3 : decide (0 < left s.l) = false := by simpa using h3
  clear h2 h3 hr
  clear h hi hn
  go_enter Try.func24, Try.ntmps24
  go_wp2_with fail
  refine HX.out.mono ?_
  rintro e w1 ⟨rfl, hb⟩
  have hb2 := hb.alloc hb.size (.cells #[.int .i64 k, .int .i64 n, .string t] 49)
  have hj := H.out.below hb2
  have HB := Lib.hid hb2
  have c9 : (w1.alloc (.cells #[.int .i64 k, .int .i64 n, .string t] 49)).cell? ⟨jb, 9, none⟩ = some (.int .i64 s.e) := hj.cell 9
  have HV := Lib.hid (AB.new w1 k n t)
  have HJ := Lib.hid hj
  clear hb hb2 hj HX H
  go_wp2_with fail
  clear c9
  have c11 : (w1.alloc (.cells #[.int .i64 k, .int .i64 n, .string t] 49)).cell? ⟨jb, 11, none⟩ = some (.int .i64 s.n) := HJ.out.cell 11
  have c3 : (w1.alloc (.cells #[.int .i64 k, .int .i64 n, .string t] 49)).cell? ⟨jb, 3, none⟩ = some (.int .i64 (s.t 2)) := HJ.out.cell 3
  have c0 : (w1.alloc (.cells #[.int .i64 k, .int .i64 n, .string t] 49)).cell? ⟨jb, 0, none⟩ = some (.pointer (some ⟨rb, 0, none⟩)) := HJ.out.cell 0
  generalize w1.alloc (.cells #[.int .i64 k, .int .i64 n, .string t] 49) = W at *
  generalize w1.heap.size = vb at *
  have k0 := cell_regrown c0; have k3 := cell_regrown c3; have k11 := cell_regrown c11
  have HGr : ∀ d os, PJ (grow (redrawn W d) os) jb rb g s := fun d os => HJ.out.below (below_regrown W d os)
  have C1 := Lib.hid (fun d os => Calls.regrown_of (left_any (HGr d os).rw HG.out))
  have mixed : Try.prog.follows .mixedOrders = true := by kernel_rfl
  clear HGr c0 c3 c11
  generalize s.t 2 = t2 at *
  generalize s.n = sn at *
  generalize left s.l = lf at *
  refine wp_region_quiet_below (by assumption) (by kernel_rfl) ?_
  repeat (quiet_step (first | (go_at_call 44; exact C1.out _ _)))
  refine wpQuiet_nil ?_
  intro _ hw'
  obtain ⟨⟨dq, osq⟩, hw''⟩ := hw'
  subst hw''
  have HF := Lib.hid (chn HB.out (below_regrown W dq osq))
  have HJ2 := Lib.hid (HJ.out.below (below_regrown W dq osq))
  have HV2 := Lib.hid (HV.out.below (below_regrown W dq osq))
  generalize grow (redrawn W dq) osq = Z at *
  obtain ⟨v0, v1, v2⟩ := HV2.out.cells
  clear HJ HV HB k0 k3 k11 C1
  go_wp2_with fail
  have HL := pj_long HJ2.out k n t
  rw [HR.out] at HL
  refine HL.mono ?_
  clear HL HR
  rintro e w9 ⟨rfl, hb⟩
  have HF2 := Lib.hid (chn HF.out hb)
  clear hb HF v0 v1 v2
  go_wp2_with fail
  go_ret
  exact ⟨rfl, HF2.out⟩
set_option maxHeartbeats 2000000 in
theorem pf_leftfalse (h : PJ w jb rb g s) (hi : Inv s) (now : Int) {k n : Int} {t : ByteArray} (hn : nv s.l = .tuple #[.agg #[.int .i64 k, .int .i64 n, .string t], .bool true]) (h1 : now < s.e) (h2 : s.t 2 ≤ s.n) (h3 : ¬ 0 < left s.l) (hr : decide (s.c = 2 ∧ s.t 6 ≤ s.k ∨ s.c = 1 ∧ s.t 4 ≤ s.k ∧ k = 1) = false) : Calls Try.prog 24 #[.pointer (some ⟨jb, 0, none⟩), .int .i64 now] w (VB (.int .i64 0) w) := by
  have HX : Hid (Calls Try.prog 26 #[.pointer (some ⟨jb, 0, none⟩)] w (VB (.tuple #[.agg #[.int .i64 k, .int .i64 n, .string t], .bool true]) w)) := by have q := pj_next h; rw [hn] at q; exact q
  have H := Lib.hid h
  have HG := Lib.hid hi.gd
  have HLB := Lib.hid (show 0 ≤ left s.l ∧ left s.l ≤ 2048 by have q1 := left_bd hi.gd.all; have q2 := hi.gd.len; omega)
  have d1 : decide (s.e ≤ now) = false := by simp; omega
  clear h1
  have HR := Lib.hid hr
  have d2 : decide (s.t 2 ≤ s.n) = true := by simpa using h2
  have d3 : decide (0 < left s.l) = false := by simpa using h3
  clear h2 h3 hr
  clear h hi hn
  go_enter Try.func24, Try.ntmps24
  go_wp2_with fail
  refine HX.out.mono ?_
  rintro e w1 ⟨rfl, hb⟩
  have hb2 := hb.alloc hb.size (.cells #[.int .i64 k, .int .i64 n, .string t] 49)
  have hj := H.out.below hb2
  have HB := Lib.hid hb2
  have c9 : (w1.alloc (.cells #[.int .i64 k, .int .i64 n, .string t] 49)).cell? ⟨jb, 9, none⟩ = some (.int .i64 s.e) := hj.cell 9
  have HV := Lib.hid (AB.new w1 k n t)
  have HJ := Lib.hid hj
  clear hb hb2 hj HX H
  go_wp2_with fail
  clear c9
  have c11 : (w1.alloc (.cells #[.int .i64 k, .int .i64 n, .string t] 49)).cell? ⟨jb, 11, none⟩ = some (.int .i64 s.n) := HJ.out.cell 11
  have c3 : (w1.alloc (.cells #[.int .i64 k, .int .i64 n, .string t] 49)).cell? ⟨jb, 3, none⟩ = some (.int .i64 (s.t 2)) := HJ.out.cell 3
  have c0 : (w1.alloc (.cells #[.int .i64 k, .int .i64 n, .string t] 49)).cell? ⟨jb, 0, none⟩ = some (.pointer (some ⟨rb, 0, none⟩)) := HJ.out.cell 0
  generalize w1.alloc (.cells #[.int .i64 k, .int .i64 n, .string t] 49) = W at *
  generalize w1.heap.size = vb at *
  have k0 := cell_regrown c0; have k3 := cell_regrown c3; have k11 := cell_regrown c11
  have HGr : ∀ d os, PJ (grow (redrawn W d) os) jb rb g s := fun d os => HJ.out.below (below_regrown W d os)
  have C1 := Lib.hid (fun d os => Calls.regrown_of (left_any (HGr d os).rw HG.out))
  have mixed : Try.prog.follows .mixedOrders = true := by kernel_rfl
  clear HGr c0 c3 c11
  generalize s.t 2 = t2 at *
  generalize s.n = sn at *
  generalize left s.l = lf at *
  refine wp_region_quiet_below (by assumption) (by kernel_rfl) ?_
  repeat (quiet_step (first | (go_at_call 44; exact C1.out _ _)))
  refine wpQuiet_nil ?_
  intro _ hw'
  obtain ⟨⟨dq, osq⟩, hw''⟩ := hw'
  subst hw''
  have HF := Lib.hid (chn HB.out (below_regrown W dq osq))
  have HJ2 := Lib.hid (HJ.out.below (below_regrown W dq osq))
  have HV2 := Lib.hid (HV.out.below (below_regrown W dq osq))
  generalize grow (redrawn W dq) osq = Z at *
  obtain ⟨v0, v1, v2⟩ := HV2.out.cells
  clear HJ HV HB k0 k3 k11 C1
  go_wp2_with fail
  have HL := pj_long HJ2.out k n t
  rw [HR.out] at HL
  refine HL.mono ?_
  clear HL HR
  rintro e w9 ⟨rfl, hb⟩
  have HF2 := Lib.hid (chn HF.out hb)
  clear hb HF v0 v1 v2
  go_wp2_with fail
  go_ret
  exact ⟨rfl, HF2.out⟩
set_option maxHeartbeats 2000000 in
theorem pf_notrue (h : PJ w jb rb g s) (hi : Inv s) (now : Int) {k n : Int} {t : ByteArray} (hn : nv s.l = .tuple #[.agg #[.int .i64 k, .int .i64 n, .string t], .bool true]) (h1 : now < s.e) (h2 : ¬ s.t 2 ≤ s.n) (hr : decide (s.c = 2 ∧ s.t 6 ≤ s.k ∨ s.c = 1 ∧ s.t 4 ≤ s.k ∧ k = 1) = true) : Calls Try.prog 24 #[.pointer (some ⟨jb, 0, none⟩), .int .i64 now] w (VB (.int .i64 2) w) := by
  have HX : Hid (Calls Try.prog 26 #[.pointer (some ⟨jb, 0, none⟩)] w (VB (.tuple #[.agg #[.int .i64 k, .int .i64 n, .string t], .bool true]) w)) := by have q := pj_next h; rw [hn] at q; exact q
  have H := Lib.hid h
  have HG := Lib.hid hi.gd
  have HLB := Lib.hid (show 0 ≤ left s.l ∧ left s.l ≤ 2048 by have q1 := left_bd hi.gd.all; have q2 := hi.gd.len; omega)
  have d1 : decide (s.e ≤ now) = false := by simp; omega
  clear h1
  have HR := Lib.hid hr
  have d2 : decide (s.t 2 ≤ s.n) = false := by simpa using h2
  clear h2 hr
  clear h hi hn
  go_enter Try.func24, Try.ntmps24
  go_wp2_with fail
  refine HX.out.mono ?_
  rintro e w1 ⟨rfl, hb⟩
  have hb2 := hb.alloc hb.size (.cells #[.int .i64 k, .int .i64 n, .string t] 49)
  have hj := H.out.below hb2
  have HB := Lib.hid hb2
  have c9 : (w1.alloc (.cells #[.int .i64 k, .int .i64 n, .string t] 49)).cell? ⟨jb, 9, none⟩ = some (.int .i64 s.e) := hj.cell 9
  have HV := Lib.hid (AB.new w1 k n t)
  have HJ := Lib.hid hj
  clear hb hb2 hj HX H
  go_wp2_with fail
  clear c9
  have c11 : (w1.alloc (.cells #[.int .i64 k, .int .i64 n, .string t] 49)).cell? ⟨jb, 11, none⟩ = some (.int .i64 s.n) := HJ.out.cell 11
  have c3 : (w1.alloc (.cells #[.int .i64 k, .int .i64 n, .string t] 49)).cell? ⟨jb, 3, none⟩ = some (.int .i64 (s.t 2)) := HJ.out.cell 3
  have c0 : (w1.alloc (.cells #[.int .i64 k, .int .i64 n, .string t] 49)).cell? ⟨jb, 0, none⟩ = some (.pointer (some ⟨rb, 0, none⟩)) := HJ.out.cell 0
  generalize w1.alloc (.cells #[.int .i64 k, .int .i64 n, .string t] 49) = W at *
  generalize w1.heap.size = vb at *
  go_quiet (fail)
  have hbw : Below W.heap.size W (W.drewN nq) := below_drewN (Below.refl _ W) nq
  have HF := Lib.hid (chn HB.out hbw)
  generalize s.t 2 = t2 at *
  generalize s.n = sn at *
  have HJ2 := Lib.hid (HJ.out.below hbw)
  have HV2 := Lib.hid (HV.out.below hbw)
  generalize W.drewN nq = Z at *
  obtain ⟨v0, v1, v2⟩ := HV2.out.cells
  clear HJ HV HB hbw c0 c3 c11
  go_wp2_with fail
  have HL := pj_long HJ2.out k n t
  rw [HR.out] at HL
  refine HL.mono ?_
  clear HL HR
  rintro e w9 ⟨rfl, hb⟩
  have HF2 := Lib.hid (chn HF.out hb)
  clear hb HF v0 v1 v2
  go_wp2_with fail
  go_ret
  exact ⟨rfl, HF2.out⟩
set_option maxHeartbeats 2000000 in
theorem pf_nofalse (h : PJ w jb rb g s) (hi : Inv s) (now : Int) {k n : Int} {t : ByteArray} (hn : nv s.l = .tuple #[.agg #[.int .i64 k, .int .i64 n, .string t], .bool true]) (h1 : now < s.e) (h2 : ¬ s.t 2 ≤ s.n) (hr : decide (s.c = 2 ∧ s.t 6 ≤ s.k ∨ s.c = 1 ∧ s.t 4 ≤ s.k ∧ k = 1) = false) : Calls Try.prog 24 #[.pointer (some ⟨jb, 0, none⟩), .int .i64 now] w (VB (.int .i64 0) w) := by
  have HX : Hid (Calls Try.prog 26 #[.pointer (some ⟨jb, 0, none⟩)] w (VB (.tuple #[.agg #[.int .i64 k, .int .i64 n, .string t], .bool true]) w)) := by have q := pj_next h; rw [hn] at q; exact q
  have H := Lib.hid h
  have HG := Lib.hid hi.gd
  have HLB := Lib.hid (show 0 ≤ left s.l ∧ left s.l ≤ 2048 by have q1 := left_bd hi.gd.all; have q2 := hi.gd.len; omega)
  have d1 : decide (s.e ≤ now) = false := by simp; omega
  clear h1
  have HR := Lib.hid hr
  have d2 : decide (s.t 2 ≤ s.n) = false := by simpa using h2
  clear h2 hr
  clear h hi hn
  go_enter Try.func24, Try.ntmps24
  go_wp2_with fail
  refine HX.out.mono ?_
  rintro e w1 ⟨rfl, hb⟩
  have hb2 := hb.alloc hb.size (.cells #[.int .i64 k, .int .i64 n, .string t] 49)
  have hj := H.out.below hb2
  have HB := Lib.hid hb2
  have c9 : (w1.alloc (.cells #[.int .i64 k, .int .i64 n, .string t] 49)).cell? ⟨jb, 9, none⟩ = some (.int .i64 s.e) := hj.cell 9
  have HV := Lib.hid (AB.new w1 k n t)
  have HJ := Lib.hid hj
  clear hb hb2 hj HX H
  go_wp2_with fail
  clear c9
  have c11 : (w1.alloc (.cells #[.int .i64 k, .int .i64 n, .string t] 49)).cell? ⟨jb, 11, none⟩ = some (.int .i64 s.n) := HJ.out.cell 11
  have c3 : (w1.alloc (.cells #[.int .i64 k, .int .i64 n, .string t] 49)).cell? ⟨jb, 3, none⟩ = some (.int .i64 (s.t 2)) := HJ.out.cell 3
  have c0 : (w1.alloc (.cells #[.int .i64 k, .int .i64 n, .string t] 49)).cell? ⟨jb, 0, none⟩ = some (.pointer (some ⟨rb, 0, none⟩)) := HJ.out.cell 0
  generalize w1.alloc (.cells #[.int .i64 k, .int .i64 n, .string t] 49) = W at *
  generalize w1.heap.size = vb at *
  go_quiet (fail)
  have hbw : Below W.heap.size W (W.drewN nq) := below_drewN (Below.refl _ W) nq
  have HF := Lib.hid (chn HB.out hbw)
  generalize s.t 2 = t2 at *
  generalize s.n = sn at *
  have HJ2 := Lib.hid (HJ.out.below hbw)
  have HV2 := Lib.hid (HV.out.below hbw)
  generalize W.drewN nq = Z at *
  obtain ⟨v0, v1, v2⟩ := HV2.out.cells
  clear HJ HV HB hbw c0 c3 c11
  go_wp2_with fail
  have HL := pj_long HJ2.out k n t
  rw [HR.out] at HL
  refine HL.mono ?_
  clear HL HR
  rintro e w9 ⟨rfl, hb⟩
  have HF2 := Lib.hid (chn HF.out hb)
  clear hb HF v0 v1 v2
  go_wp2_with fail
  go_ret
  exact ⟨rfl, HF2.out⟩
theorem pj_fault (h : PJ w jb rb g s) (hi : Inv s) (now : Int) : Calls Try.prog 24 #[.pointer (some ⟨jb, 0, none⟩), .int .i64 now] w (VB (.int .i64 (fau s now)) w) := by
  obtain ⟨k, n, t, b, hx, hk⟩ : ∃ (k n : Int) (t : ByteArray) (b : Bool), nv s.l = .tuple #[.agg #[.int .i64 k, .int .i64 n, .string t], .bool b] ∧ (nxt s.l).k = k := ⟨_, _, _, _, rfl, rfl⟩
  have hb : isn s.l = b := by
    have q := hx
    unfold nv at q
    simp only [Value.tuple.injEq] at q
    have q2 := congrArg (fun a : Array Value => a[1]?) q
    simpa using q2
  unfold fau
  cases b with
  | false =>
    rw [if_pos (by cases hl : s.l with | nil => rfl | cons x y => rw [hl] at hb; exact absurd hb (by simp [isn]))]
    exact pf_none h hi now hx
  | true =>
    rw [if_neg (by intro hl; rw [hl] at hb; exact absurd hb (by simp [isn]))]
    split
    · rename_i q
      exact pf_late h hi now hx q
    rename_i q1
    split
    · rename_i q
      exact pf_over h hi now hx (by omega) q.1 q.2
    rename_i q2
    by_cases hr : s.c = 2 ∧ s.t 6 ≤ s.k ∨ s.c = 1 ∧ s.t 4 ≤ s.k ∧ k = 1
    · have hv : (if s.c = 2 ∧ s.t 6 ≤ s.k then 2 else if s.c = 1 ∧ s.t 4 ≤ s.k ∧ (nxt s.l).k = 1 then 2 else 0 : Int) = 2 := by
        rw [hk]
        rcases hr with hr | hr
        · rw [if_pos hr]
        · split
          · rfl
          · rfl
      rw [hv]
      by_cases h2 : s.t 2 ≤ s.n
      · exact pf_lefttrue h hi now hx (by omega) h2 (fun q => q2 ⟨h2, q⟩) (by simpa using hr)
      · exact pf_notrue h hi now hx (by omega) h2 (by simpa using hr)
    · have hv : (if s.c = 2 ∧ s.t 6 ≤ s.k then 2 else if s.c = 1 ∧ s.t 4 ≤ s.k ∧ (nxt s.l).k = 1 then 2 else 0 : Int) = 0 := by
        rw [hk, if_neg (fun q => hr (Or.inl q)), if_neg (fun q => hr (Or.inr q))]
      rw [hv]
      by_cases h2 : s.t 2 ≤ s.n
      · exact pf_leftfalse h hi now hx (by omega) h2 (fun q => q2 ⟨h2, q⟩) (decide_eq_false hr)
      · exact pf_nofalse h hi now hx (by omega) h2 (decide_eq_false hr)
end
end Go.Proofs.Ytoggnofdgmhbmaa
