/- A task that may be asked, made out of any. -/
import Derived.Test.YtoggnofdgmhbmaaJobC
namespace Go.Proofs.Ytoggnofdgmhbmaa
open Go.RowKit Ac Jo
set_option linter.unusedVariables false

/-- a task's eight cells -/
def T8 (w : World) (g : Nat) (a0 a1 a2 a3 a4 a5 a6 a7 : Int) : Prop := w.heap[g]? = some (.cells #[.int .i64 a0, .int .i64 a1, .int .i64 a2, .int .i64 a3, .int .i64 a4, .int .i64 a5, .int .i64 a6, .int .i64 a7] 23 (0, 0))
section
variable {w : World} {g : Nat} {a0 a1 a2 a3 a4 a5 a6 a7 : Int}
theorem T8.lt (h : T8 w g a0 a1 a2 a3 a4 a5 a6 a7) : g < w.heap.size := lt_of_block h
theorem T8.keep {w' : World} (h : T8 w g a0 a1 a2 a3 a4 a5 a6 a7) (q : w'.heap[g]? = w.heap[g]?) : T8 w' g a0 a1 a2 a3 a4 a5 a6 a7 := Eq.trans q h
theorem T8.free (h : T8 w g a0 a1 a2 a3 a4 a5 a6 a7) (p : Nat) : w.frozen? ⟨g, p, none⟩ = false := frozen_of_row _ _ _ _ _ h
theorem T8.new (w : World) (a0 a1 a2 a3 a4 a5 a6 a7 : Int) : T8 (w.alloc (.cells #[.int .i64 a0, .int .i64 a1, .int .i64 a2, .int .i64 a3, .int .i64 a4, .int .i64 a5, .int .i64 a6, .int .i64 a7] 23)) w.heap.size a0 a1 a2 a3 a4 a5 a6 a7 := heap_alloc_new w _
theorem T8.c0 (h : T8 w g a0 a1 a2 a3 a4 a5 a6 a7) : w.cell? ⟨g, 0, none⟩ = some (.int .i64 a0) := cell_of_row _ _ 0 _ _ _ h
theorem T8.c1 (h : T8 w g a0 a1 a2 a3 a4 a5 a6 a7) : w.cell? ⟨g, 1, none⟩ = some (.int .i64 a1) := cell_of_row _ _ 1 _ _ _ h
theorem T8.c2 (h : T8 w g a0 a1 a2 a3 a4 a5 a6 a7) : w.cell? ⟨g, 2, none⟩ = some (.int .i64 a2) := cell_of_row _ _ 2 _ _ _ h
theorem T8.c3 (h : T8 w g a0 a1 a2 a3 a4 a5 a6 a7) : w.cell? ⟨g, 3, none⟩ = some (.int .i64 a3) := cell_of_row _ _ 3 _ _ _ h
theorem T8.c4 (h : T8 w g a0 a1 a2 a3 a4 a5 a6 a7) : w.cell? ⟨g, 4, none⟩ = some (.int .i64 a4) := cell_of_row _ _ 4 _ _ _ h
theorem T8.c5 (h : T8 w g a0 a1 a2 a3 a4 a5 a6 a7) : w.cell? ⟨g, 5, none⟩ = some (.int .i64 a5) := cell_of_row _ _ 5 _ _ _ h
theorem T8.c6 (h : T8 w g a0 a1 a2 a3 a4 a5 a6 a7) : w.cell? ⟨g, 6, none⟩ = some (.int .i64 a6) := cell_of_row _ _ 6 _ _ _ h
theorem T8.c7 (h : T8 w g a0 a1 a2 a3 a4 a5 a6 a7) : w.cell? ⟨g, 7, none⟩ = some (.int .i64 a7) := cell_of_row _ _ 7 _ _ _ h
theorem T8.s0 (h : T8 w g a0 a1 a2 a3 a4 a5 a6 a7) (x : Int) : T8 (w.setCell ⟨g, 0, none⟩ (.int .i64 x)) g x a1 a2 a3 a4 a5 a6 a7 := heap_setCell_same w g 0 _ 23 (.int .i64 x) h
theorem T8.s1 (h : T8 w g a0 a1 a2 a3 a4 a5 a6 a7) (x : Int) : T8 (w.setCell ⟨g, 1, none⟩ (.int .i64 x)) g a0 x a2 a3 a4 a5 a6 a7 := heap_setCell_same w g 1 _ 23 (.int .i64 x) h
theorem T8.s2 (h : T8 w g a0 a1 a2 a3 a4 a5 a6 a7) (x : Int) : T8 (w.setCell ⟨g, 2, none⟩ (.int .i64 x)) g a0 a1 x a3 a4 a5 a6 a7 := heap_setCell_same w g 2 _ 23 (.int .i64 x) h
theorem T8.s3 (h : T8 w g a0 a1 a2 a3 a4 a5 a6 a7) (x : Int) : T8 (w.setCell ⟨g, 3, none⟩ (.int .i64 x)) g a0 a1 a2 x a4 a5 a6 a7 := heap_setCell_same w g 3 _ 23 (.int .i64 x) h
theorem T8.s4 (h : T8 w g a0 a1 a2 a3 a4 a5 a6 a7) (x : Int) : T8 (w.setCell ⟨g, 4, none⟩ (.int .i64 x)) g a0 a1 a2 a3 x a5 a6 a7 := heap_setCell_same w g 4 _ 23 (.int .i64 x) h
theorem T8.s5 (h : T8 w g a0 a1 a2 a3 a4 a5 a6 a7) (x : Int) : T8 (w.setCell ⟨g, 5, none⟩ (.int .i64 x)) g a0 a1 a2 a3 a4 x a6 a7 := heap_setCell_same w g 5 _ 23 (.int .i64 x) h
theorem T8.s6 (h : T8 w g a0 a1 a2 a3 a4 a5 a6 a7) (x : Int) : T8 (w.setCell ⟨g, 6, none⟩ (.int .i64 x)) g a0 a1 a2 a3 a4 a5 x a7 := heap_setCell_same w g 6 _ 23 (.int .i64 x) h
theorem T8.s7 (h : T8 w g a0 a1 a2 a3 a4 a5 a6 a7) (x : Int) : T8 (w.setCell ⟨g, 7, none⟩ (.int .i64 x)) g a0 a1 a2 a3 a4 a5 a6 x := heap_setCell_same w g 7 _ 23 (.int .i64 x) h
/-- eight cells are set -/
def w8 (w : World) (g : Nat) (x0 x1 x2 x3 x4 x5 x6 x7 : Int) : World :=
  ((((((((w.setCell ⟨g, 0, none⟩ (.int .i64 x0)).setCell ⟨g, 1, none⟩ (.int .i64 x1)).setCell ⟨g, 2, none⟩ (.int .i64 x2)).setCell ⟨g, 3, none⟩ (.int .i64 x3)).setCell ⟨g, 4, none⟩ (.int .i64 x4)).setCell ⟨g, 5, none⟩ (.int .i64 x5)).setCell ⟨g, 6, none⟩ (.int .i64 x6)).setCell ⟨g, 7, none⟩ (.int .i64 x7))
theorem T8.set8 (h : T8 w g a0 a1 a2 a3 a4 a5 a6 a7) (x0 x1 x2 x3 x4 x5 x6 x7 : Int) : T8 (w8 w g x0 x1 x2 x3 x4 x5 x6 x7) g x0 x1 x2 x3 x4 x5 x6 x7 := (((((((h.s0 x0).s1 x1).s2 x2).s3 x3).s4 x4).s5 x5).s6 x6).s7 x7
theorem below_w8 {w w1 : World} {B g : Nat} (h : Below B w w1) (hg : B ≤ g) (x0 x1 x2 x3 x4 x5 x6 x7 : Int) : Below B w (w8 w1 g x0 x1 x2 x3 x4 x5 x6 x7) :=
  (((((((h.setCell hg _).setCell hg _).setCell hg _).setCell hg _).setCell hg _).setCell hg _).setCell hg _).setCell hg _
end
/-- a task that may be asked is answered -/
def MkT (w : World) (e : Ending) (w' : World) : Prop := ∃ u : Nat → Int, e = .returned (tv u) ∧ tok u = true ∧ 0 ≤ u 4 ∧ u 4 ≤ 64 ∧ 1 ≤ u 6 ∧ u 6 ≤ 64 ∧ 0 ≤ u 7 ∧ u 7 ≤ 4 ∧ Below w.heap.size w w'
def u8 (x0 x1 x2 x3 x4 x5 x6 x7 : Int) (i : Nat) : Int := [x0, x1, x2, x3, x4, x5, x6, x7].getD i 0
set_option maxRecDepth 100000 in
set_option maxHeartbeats 4000000 in
theorem jmade_of (a0 a1 a2 a3 a4 a5 a6 a7 : Int) (w : World) : Calls Try.prog 19 #[.agg #[.int .i64 a0, .int .i64 a1, .int .i64 a2, .int .i64 a3, .int .i64 a4, .int .i64 a5, .int .i64 a6, .int .i64 a7]] w (MkT w) := by
  obtain ⟨q0, k0, l0, hq0⟩ : ∃ q : Int, 0 ≤ q ∧ q < 64 ∧ bring a0 (64) = q := ⟨_, (bring_bd a0 (64) (by omega)).1, (bring_bd a0 (64) (by omega)).2, rfl⟩
  have H0 := Lib.hid (fun W => bring_any a0 (64) W (by omega) (by omega))
  rw [hq0] at H0
  clear hq0
  obtain ⟨q1, k1, l1, hq1⟩ : ∃ q : Int, 0 ≤ q ∧ q < 1 + q0 ∧ bring a1 (1 + q0) = q := ⟨_, (bring_bd a1 (1 + q0) (by omega)).1, (bring_bd a1 (1 + q0) (by omega)).2, rfl⟩
  have H1 := Lib.hid (fun W => bring_any a1 (1 + q0) W (by omega) (by omega))
  rw [hq1] at H1
  clear hq1
  obtain ⟨q2, k2, l2, hq2⟩ : ∃ q : Int, 0 ≤ q ∧ q < 1 + q1 ∧ bring a2 (1 + q1) = q := ⟨_, (bring_bd a2 (1 + q1) (by omega)).1, (bring_bd a2 (1 + q1) (by omega)).2, rfl⟩
  have H2 := Lib.hid (fun W => bring_any a2 (1 + q1) W (by omega) (by omega))
  rw [hq2] at H2
  clear hq2
  obtain ⟨q4, k4, l4, hq4⟩ : ∃ q : Int, 0 ≤ q ∧ q < 1 + q2 + 1 ∧ bring a4 (1 + q2 + 1) = q := ⟨_, (bring_bd a4 (1 + q2 + 1) (by omega)).1, (bring_bd a4 (1 + q2 + 1) (by omega)).2, rfl⟩
  have H4 := Lib.hid (fun W => bring_any a4 (1 + q2 + 1) W (by omega) (by omega))
  rw [hq4] at H4
  clear hq4
  obtain ⟨q6, k6, l6, hq6⟩ : ∃ q : Int, 0 ≤ q ∧ q < 1 + q2 ∧ bring a6 (1 + q2) = q := ⟨_, (bring_bd a6 (1 + q2) (by omega)).1, (bring_bd a6 (1 + q2) (by omega)).2, rfl⟩
  have H6 := Lib.hid (fun W => bring_any a6 (1 + q2) W (by omega) (by omega))
  rw [hq6] at H6
  clear hq6
  obtain ⟨q7, k7, l7, hq7⟩ : ∃ q : Int, 0 ≤ q ∧ q < 4 ∧ bring a7 (4) = q := ⟨_, (bring_bd a7 (4) (by omega)).1, (bring_bd a7 (4) (by omega)).2, rfl⟩
  have H7 := Lib.hid (fun W => bring_any a7 (4) W (by omega) (by omega))
  rw [hq7] at H7
  clear hq7
  have HX : Hid (T8 ((w.alloc (.cells #[.int .i64 a0, .int .i64 a1, .int .i64 a2, .int .i64 a3, .int .i64 a4, .int .i64 a5, .int .i64 a6, .int .i64 a7] 23)).alloc (.cells #[.int .i64 0, .int .i64 0, .int .i64 0, .int .i64 0, .int .i64 0, .int .i64 0, .int .i64 0, .int .i64 0] 23)) w.heap.size a0 a1 a2 a3 a4 a5 a6 a7) := (T8.new w a0 a1 a2 a3 a4 a5 a6 a7).keep ((below_al (w.alloc (.cells #[.int .i64 a0, .int .i64 a1, .int .i64 a2, .int .i64 a3, .int .i64 a4, .int .i64 a5, .int .i64 a6, .int .i64 a7] 23)) (.cells #[.int .i64 0, .int .i64 0, .int .i64 0, .int .i64 0, .int .i64 0, .int .i64 0, .int .i64 0, .int .i64 0] 23)).block w.heap.size (by simp))
  have HZ : Hid (T8 ((w.alloc (.cells #[.int .i64 a0, .int .i64 a1, .int .i64 a2, .int .i64 a3, .int .i64 a4, .int .i64 a5, .int .i64 a6, .int .i64 a7] 23)).alloc (.cells #[.int .i64 0, .int .i64 0, .int .i64 0, .int .i64 0, .int .i64 0, .int .i64 0, .int .i64 0, .int .i64 0] 23)) (w.heap.size + 1) 0 0 0 0 0 0 0 0) := by have := T8.new (w.alloc (.cells #[.int .i64 a0, .int .i64 a1, .int .i64 a2, .int .i64 a3, .int .i64 a4, .int .i64 a5, .int .i64 a6, .int .i64 a7] 23)) 0 0 0 0 0 0 0 0; rw [World.size_alloc] at this; exact this
  have HB : Hid (Below w.heap.size w ((w.alloc (.cells #[.int .i64 a0, .int .i64 a1, .int .i64 a2, .int .i64 a3, .int .i64 a4, .int .i64 a5, .int .i64 a6, .int .i64 a7] 23)).alloc (.cells #[.int .i64 0, .int .i64 0, .int .i64 0, .int .i64 0, .int .i64 0, .int .i64 0, .int .i64 0, .int .i64 0] 23))) := (below_al w (.cells #[.int .i64 a0, .int .i64 a1, .int .i64 a2, .int .i64 a3, .int .i64 a4, .int .i64 a5, .int .i64 a6, .int .i64 a7] 23)).alloc (by simp) _
  have y0 := HX.out.c0
  go_enter Try.func19, Try.ntmps19
  go_wp2_with fail
  clear y0
  generalize ((w.alloc (.cells #[.int .i64 a0, .int .i64 a1, .int .i64 a2, .int .i64 a3, .int .i64 a4, .int .i64 a5, .int .i64 a6, .int .i64 a7] 23)).alloc (.cells #[.int .i64 0, .int .i64 0, .int .i64 0, .int .i64 0, .int .i64 0, .int .i64 0, .int .i64 0, .int .i64 0] 23)) = wx at *
  obtain ⟨g, hg⟩ : ∃ g, g = w.heap.size := ⟨_, rfl⟩
  have HG := Lib.hid hg
  rw [← hg] at HX HZ ⊢
  clear hg
  refine (H0.out _).mono ?_
  rintro e w' ⟨rfl, rfl⟩
  clear H0
  have f0 := HX.out.free 0
  have y0 := HX.out.c0
  have HX2 := Lib.hid (HX.out.s0 (1 + q0))
  have HZ2 := Lib.hid (HZ.out.keep (w' := wx.setCell ⟨g, 0, none⟩ (.int .i64 (1 + q0))) (Below.heap_setCell _ _ _ _ (show g + 1 ≠ g by omega)))
  have HB2 := Lib.hid (HB.out.setCell (p := ⟨g, 0, none⟩) (show w.heap.size ≤ g by rw [HG.out]; exact Nat.le_refl _) (.int .i64 (1 + q0)))
  clear HX HZ HB
  have y2 := HX2.out.c1
  have y1 := HX2.out.c0
  go_wp2_with fail
  clear f0 y0 y2 y1
  generalize wx.setCell ⟨g, 0, none⟩ (.int .i64 (1 + q0)) = wx1 at *
  have HX := HX2; have HZ := HZ2; have HB := HB2
  clear HX2 HZ2 HB2
  refine (H1.out _).mono ?_
  rintro e w' ⟨rfl, rfl⟩
  clear H1
  have f0 := HX.out.free 1
  have y0 := HX.out.c1
  have HX2 := Lib.hid (HX.out.s1 (1 + q1))
  have HZ2 := Lib.hid (HZ.out.keep (w' := wx1.setCell ⟨g, 1, none⟩ (.int .i64 (1 + q1))) (Below.heap_setCell _ _ _ _ (show g + 1 ≠ g by omega)))
  have HB2 := Lib.hid (HB.out.setCell (p := ⟨g, 1, none⟩) (show w.heap.size ≤ g by rw [HG.out]; exact Nat.le_refl _) (.int .i64 (1 + q1)))
  clear HX HZ HB
  have y3 := HX2.out.c2
  have y2 := HX2.out.c1
  go_wp2_with fail
  clear f0 y0 y3 y2
  generalize wx1.setCell ⟨g, 1, none⟩ (.int .i64 (1 + q1)) = wx2 at *
  have HX := HX2; have HZ := HZ2; have HB := HB2
  clear HX2 HZ2 HB2
  refine (H2.out _).mono ?_
  rintro e w' ⟨rfl, rfl⟩
  clear H2
  have f0 := HX.out.free 2
  have y0 := HX.out.c2
  have HX2 := Lib.hid (HX.out.s2 (1 + q2))
  have HZ2 := Lib.hid (HZ.out.keep (w' := wx2.setCell ⟨g, 2, none⟩ (.int .i64 (1 + q2))) (Below.heap_setCell _ _ _ _ (show g + 1 ≠ g by omega)))
  have HB2 := Lib.hid (HB.out.setCell (p := ⟨g, 2, none⟩) (show w.heap.size ≤ g by rw [HG.out]; exact Nat.le_refl _) (.int .i64 (1 + q2)))
  clear HX HZ HB
  have y5 := HX2.out.c4
  have y3 := HX2.out.c2
  go_wp2_with fail
  clear f0 y0 y5 y3
  generalize wx2.setCell ⟨g, 2, none⟩ (.int .i64 (1 + q2)) = wx3 at *
  have HX := HX2; have HZ := HZ2; have HB := HB2
  clear HX2 HZ2 HB2
  refine (H4.out _).mono ?_
  rintro e w' ⟨rfl, rfl⟩
  clear H4
  have f0 := HX.out.free 4
  have y0 := HX.out.c4
  have HX2 := Lib.hid (HX.out.s4 (q4))
  have HZ2 := Lib.hid (HZ.out.keep (w' := wx3.setCell ⟨g, 4, none⟩ (.int .i64 (q4))) (Below.heap_setCell _ _ _ _ (show g + 1 ≠ g by omega)))
  have HB2 := Lib.hid (HB.out.setCell (p := ⟨g, 4, none⟩) (show w.heap.size ≤ g by rw [HG.out]; exact Nat.le_refl _) (.int .i64 (q4)))
  clear HX HZ HB
  have y7 := HX2.out.c6
  have y3 := HX2.out.c2
  go_wp2_with fail
  clear f0 y0 y7 y3
  generalize wx3.setCell ⟨g, 4, none⟩ (.int .i64 (q4)) = wx4 at *
  have HX := HX2; have HZ := HZ2; have HB := HB2
  clear HX2 HZ2 HB2
  refine (H6.out _).mono ?_
  rintro e w' ⟨rfl, rfl⟩
  clear H6
  have f0 := HX.out.free 6
  have y0 := HX.out.c6
  have HX2 := Lib.hid (HX.out.s6 (1 + q6))
  have HZ2 := Lib.hid (HZ.out.keep (w' := wx4.setCell ⟨g, 6, none⟩ (.int .i64 (1 + q6))) (Below.heap_setCell _ _ _ _ (show g + 1 ≠ g by omega)))
  have HB2 := Lib.hid (HB.out.setCell (p := ⟨g, 6, none⟩) (show w.heap.size ≤ g by rw [HG.out]; exact Nat.le_refl _) (.int .i64 (1 + q6)))
  clear HX HZ HB
  have y8 := HX2.out.c7
  go_wp2_with fail
  clear f0 y0 y8
  generalize wx4.setCell ⟨g, 6, none⟩ (.int .i64 (1 + q6)) = wx5 at *
  have HX := HX2; have HZ := HZ2; have HB := HB2
  clear HX2 HZ2 HB2
  refine (H7.out _).mono ?_
  rintro e w' ⟨rfl, rfl⟩
  clear H7
  have f0 := HX.out.free 7
  have y0 := HX.out.c7
  have HX2 := Lib.hid (HX.out.s7 (q7))
  have HZ2 := Lib.hid (HZ.out.keep (w' := wx5.setCell ⟨g, 7, none⟩ (.int .i64 (q7))) (Below.heap_setCell _ _ _ _ (show g + 1 ≠ g by omega)))
  have HB2 := Lib.hid (HB.out.setCell (p := ⟨g, 7, none⟩) (show w.heap.size ≤ g by rw [HG.out]; exact Nat.le_refl _) (.int .i64 (q7)))
  clear HX HZ HB
  have y1 := HX2.out.c0
  have y2 := HX2.out.c1
  have y3 := HX2.out.c2
  have y4 := HX2.out.c3
  have y5 := HX2.out.c4
  have y6 := HX2.out.c5
  have y7 := HX2.out.c6
  have y8 := HX2.out.c7
  have z0 := HZ2.out.c0
  have v0 := HZ2.out.free 0
  have z1 := HZ2.out.c1
  have v1 := HZ2.out.free 1
  have z2 := HZ2.out.c2
  have v2 := HZ2.out.free 2
  have z3 := HZ2.out.c3
  have v3 := HZ2.out.free 3
  have z4 := HZ2.out.c4
  have v4 := HZ2.out.free 4
  have z5 := HZ2.out.c5
  have v5 := HZ2.out.free 5
  have z6 := HZ2.out.c6
  have v6 := HZ2.out.free 6
  have z7 := HZ2.out.c7
  have v7 := HZ2.out.free 7
  have HZ3 := Lib.hid (HZ2.out.set8 ((1 + q0)) ((1 + q1)) ((1 + q2)) (a3) (q4) (a5) ((1 + q6)) (q7))
  have HB3 := Lib.hid (below_w8 HB2.out (show w.heap.size ≤ g + 1 by rw [HG.out]; omega) ((1 + q0)) ((1 + q1)) ((1 + q2)) (a3) (q4) (a5) ((1 + q6)) (q7))
  have p0 : (w8 (wx5.setCell ⟨g, 7, none⟩ (.int .i64 (q7))) (g + 1) ((1 + q0)) ((1 + q1)) ((1 + q2)) (a3) (q4) (a5) ((1 + q6)) (q7)).cell? ⟨g + 1, 0, none⟩ = _ := HZ3.out.c0
  have p1 : (w8 (wx5.setCell ⟨g, 7, none⟩ (.int .i64 (q7))) (g + 1) ((1 + q0)) ((1 + q1)) ((1 + q2)) (a3) (q4) (a5) ((1 + q6)) (q7)).cell? ⟨g + 1, 1, none⟩ = _ := HZ3.out.c1
  have p2 : (w8 (wx5.setCell ⟨g, 7, none⟩ (.int .i64 (q7))) (g + 1) ((1 + q0)) ((1 + q1)) ((1 + q2)) (a3) (q4) (a5) ((1 + q6)) (q7)).cell? ⟨g + 1, 2, none⟩ = _ := HZ3.out.c2
  have p3 : (w8 (wx5.setCell ⟨g, 7, none⟩ (.int .i64 (q7))) (g + 1) ((1 + q0)) ((1 + q1)) ((1 + q2)) (a3) (q4) (a5) ((1 + q6)) (q7)).cell? ⟨g + 1, 3, none⟩ = _ := HZ3.out.c3
  have p4 : (w8 (wx5.setCell ⟨g, 7, none⟩ (.int .i64 (q7))) (g + 1) ((1 + q0)) ((1 + q1)) ((1 + q2)) (a3) (q4) (a5) ((1 + q6)) (q7)).cell? ⟨g + 1, 4, none⟩ = _ := HZ3.out.c4
  have p5 : (w8 (wx5.setCell ⟨g, 7, none⟩ (.int .i64 (q7))) (g + 1) ((1 + q0)) ((1 + q1)) ((1 + q2)) (a3) (q4) (a5) ((1 + q6)) (q7)).cell? ⟨g + 1, 5, none⟩ = _ := HZ3.out.c5
  have p6 : (w8 (wx5.setCell ⟨g, 7, none⟩ (.int .i64 (q7))) (g + 1) ((1 + q0)) ((1 + q1)) ((1 + q2)) (a3) (q4) (a5) ((1 + q6)) (q7)).cell? ⟨g + 1, 6, none⟩ = _ := HZ3.out.c6
  have p7 : (w8 (wx5.setCell ⟨g, 7, none⟩ (.int .i64 (q7))) (g + 1) ((1 + q0)) ((1 + q1)) ((1 + q2)) (a3) (q4) (a5) ((1 + q6)) (q7)).cell? ⟨g + 1, 7, none⟩ = _ := HZ3.out.c7
  unfold w8 at p0 p1 p2 p3 p4 p5 p6 p7
  go_wp2_with fail
  (try simp only [Exit.inBlock, Exit.then])
  refine bodyPost_ret (v := tv (u8 ((1 + q0)) ((1 + q1)) ((1 + q2)) (a3) (q4) (a5) ((1 + q6)) (q7))) (by simp [results, Try.results19, go_sem, *]; exact ⟨rfl, rfl, rfl, rfl, rfl, rfl, rfl, rfl⟩) rfl ?_
  refine ⟨u8 ((1 + q0)) ((1 + q1)) ((1 + q2)) (a3) (q4) (a5) ((1 + q6)) (q7), rfl, ?_, ?_⟩
  · rw [tok_six]; simp [u8]; omega
  · simp only [u8, List.getD_cons_zero, List.getD_cons_succ]
    exact ⟨by omega, by omega, by omega, by omega, by omega, by omega, HB3.out⟩
theorem jmade_any (t : Nat → Int) (w : World) : Calls Try.prog 19 #[tv t] w (MkT w) := jmade_of _ _ _ _ _ _ _ _ w
end Go.Proofs.Ytoggnofdgmhbmaa
