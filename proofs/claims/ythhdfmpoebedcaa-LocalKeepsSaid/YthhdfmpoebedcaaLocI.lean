/- The chapter's examples: works; literals of partitions. -/
import Derived.Test.YthhdfmpoebedcaaLocH
import Derived.Test.YthhdfmpoebedcaaDelM
namespace Go.Proofs.Ythhdfmpoebedcaa
open Go.RowKit Tk De Dl Lo
set_option linter.unusedVariables false

theorem part_lit (w : World) {q : Pn} {ob : Option Addr} {oc : Nat} (ht : TK w (.slice ob q.n oc) q.n q.z) (hn : q.n ≤ 2199023255552) :
    PS (w.alloc (.cells #[.int .i64 q.per, .int .i64 q.bud, .slice ob q.n oc] 33)) (.slice (some ⟨w.heap.size, 0, none⟩) 1 1) [q] := by
  have hb := (Below.refl w.heap.size w).alloc (Nat.le_refl _) (.cells #[.int .i64 q.per, .int .i64 q.bud, .slice ob q.n oc] 33)
  have hk := heap_alloc_new w (.cells #[.int .i64 q.per, .int .i64 q.bud, .slice ob q.n oc] 33)
  refine ps_of (l := [(q, .slice ob q.n oc)]) (fun j u hj => ?_) (fun i hi => ?_) (Nat.le_refl 1) (by decide)
  · rw [cell_of_row _ _ j _ _ _ hk]
    rw [← List.getElem?_toArray] at hj
    exact hj
  · match i, hi with
    | 0, _ => exact ⟨ht.below hb, hn⟩
/-- tasks of a literal, one partition with them -/
theorem lit_part (w : World) (per bud : Int) (l : List (List Int)) (hl : ∀ x ∈ l, x.length = 8) (hn : l.length ≤ 4) :
    PS ((w.alloc (.cells (tcells l).toArray 36)).alloc (.cells #[.int .i64 per, .int .i64 bud, .slice (some ⟨w.heap.size, 0, none⟩) l.length l.length] 33)) (.slice (some ⟨w.heap.size + 1, 0, none⟩) 1 1) [⟨per, bud, l.length, lz l⟩] := by
  have hk := heap_alloc_new w (.cells (tcells l).toArray 36)
  have ht : TK (w.alloc (.cells (tcells l).toArray 36)) (.slice (some ⟨w.heap.size, 0, none⟩) l.length l.length) l.length (lz l) :=
    tk_of hl (fun j u hj => by rw [cell_of_row _ _ j _ _ _ hk, List.getElem?_toArray]; exact hj) (Nat.le_refl _) (by unfold maxLen; omega)
  have := part_lit (w.alloc (.cells (tcells l).toArray 36)) (q := ⟨per, bud, l.length, lz l⟩) ht (by show l.length ≤ 2199023255552; omega)
  rw [World.size_alloc] at this
  exact this
theorem lit_bel (w : World) (o1 o2 : Obj) : Below w.heap.size w ((w.alloc o1).alloc o2) := ((Below.refl _ w).alloc (Nat.le_refl _) o1).alloc (by simp) o2
theorem one_part (a : Option Addr) (n cap : Nat) (w : World) : Calls Try.prog 14 #[.slice a n cap] w (fun e w' => e = .returned (.slice (some ⟨w.heap.size, 0, none⟩) 1 1) ∧ w' = w.alloc (.cells #[.int .i64 5, .int .i64 2, .slice a n cap] 33)) := by
  go_enter Try.func14, Try.ntmps14
  go_wp2_with fail
  go_ret
  exact ⟨rfl, rfl⟩
def tl2 : List (List Int) := [[20, 12, 2, 0, 0, 0, 0, 0]]
def tl4 : List (List Int) := [[20, 12, 4, 0, 0, 0, 0, 0]]
def tl5 : List (List Int) := [[20, 12, 2, 0, 0, 0, 0, 0], [5, 5, 2, 0, 0, 0, 0, 0]]
theorem kw1 : slR [⟨5, 2, 1, lz tl2⟩] 0 11 = (2, 0) := by decide +kernel
theorem kw2 : slR [⟨5, 2, 1, lz tl2⟩] 0 12 = (1, 0) := by decide +kernel
theorem kw3 : teR [⟨5, 2, 1, lz tl2⟩] 0 = (0, 0) := by decide +kernel
theorem kw4 : teR [⟨5, 2, 1, lz tl4⟩] 0 = (12, 120) := by decide +kernel
theorem kw5 : teR [⟨5, 2, 2, lz tl5⟩] 0 = (0, 120) := by decide +kernel
def tbox (b : Int) : Obj := .cells #[.int .i64 20, .int .i64 12, .int .i64 b, .int .i64 0, .int .i64 0, .int .i64 0, .int .i64 0, .int .i64 0] 36
/-- the task's box -/
structure WB (w W : World) (b : Int) : Prop where
  k : W.heap[w.heap.size]? = some (tbox b)
  b : Below w.heap.size w W
theorem WB.start (w : World) : WB w (w.alloc (tbox 2)) 2 := ⟨heap_alloc_new w _, (Below.refl _ w).alloc (Nat.le_refl _) _⟩
theorem WB.below {w W W' : World} {b : Int} (h : WB w W b) (q : Below W.heap.size W W') : WB w W' b := ⟨(q.block _ (lt_of_block h.k)).trans h.k, chn h.b q⟩
theorem WB.c {w W : World} {b : Int} (h : WB w W b) : W.cell? ⟨w.heap.size, 0, none⟩ = some (.int .i64 20) ∧ W.cell? ⟨w.heap.size, 1, none⟩ = some (.int .i64 12) ∧ W.cell? ⟨w.heap.size, 2, none⟩ = some (.int .i64 b) ∧ W.cell? ⟨w.heap.size, 3, none⟩ = some (.int .i64 0) ∧ W.cell? ⟨w.heap.size, 4, none⟩ = some (.int .i64 0) ∧ W.cell? ⟨w.heap.size, 5, none⟩ = some (.int .i64 0) ∧ W.cell? ⟨w.heap.size, 6, none⟩ = some (.int .i64 0) ∧ W.cell? ⟨w.heap.size, 7, none⟩ = some (.int .i64 0) :=
  ⟨cell_of_row _ _ 0 _ _ _ h.k, cell_of_row _ _ 1 _ _ _ h.k, cell_of_row _ _ 2 _ _ _ h.k, cell_of_row _ _ 3 _ _ _ h.k, cell_of_row _ _ 4 _ _ _ h.k, cell_of_row _ _ 5 _ _ _ h.k, cell_of_row _ _ 6 _ _ _ h.k, cell_of_row _ _ 7 _ _ _ h.k⟩
theorem WB.set {w W : World} {b : Int} (h : WB w W b) (c : Int) : WB w (W.setCell ⟨w.heap.size, 2, none⟩ (.int .i64 c)) c := ⟨heap_set_same h.k, h.b.setCell (p := ⟨w.heap.size, 2, none⟩) (Nat.le_refl _) _⟩
theorem WB.f {w W : World} {b : Int} (h : WB w W b) : W.frozen? ⟨w.heap.size, 2, none⟩ = false := frozen_of_row _ _ 2 _ _ h.k
theorem size_set (w : World) (a : Addr) (v : Value) : (w.setCell a v).heap.size = w.heap.size := by simp [World.setCell]
set_option maxRecDepth 100000 in
set_option maxHeartbeats 4000000 in
theorem works_any (w : World) : Calls Try.prog 8 #[] w (TrueB w) := by
  have HW0 := Lib.hid (WB.start w)
  unfold tbox at HW0
  go_enter Try.func8, Try.ntmps8
  obtain ⟨c0, c1, c2, c3, c4, c5, c6, c7⟩ := HW0.out.c
  go_wp2_with fail
  have P1 := Lib.hid (lit_part (w.alloc (.cells #[.int .i64 20, .int .i64 12, .int .i64 2, .int .i64 0, .int .i64 0, .int .i64 0, .int .i64 0, .int .i64 0] 36)) 5 2 tl2 (by decide) (by decide))
  have B1 := Lib.hid (lit_bel (w.alloc (.cells #[.int .i64 20, .int .i64 12, .int .i64 2, .int .i64 0, .int .i64 0, .int .i64 0, .int .i64 0, .int .i64 0] 36)) (.cells #[.int .i64 20, .int .i64 12, .int .i64 2, .int .i64 0, .int .i64 0, .int .i64 0, .int .i64 0, .int .i64 0] 36) (.cells #[.int .i64 5, .int .i64 2, .slice (some ⟨w.heap.size + 1, 0, none⟩) 1 1] 33))
  simp only [World.size_alloc] at P1
  have Q1 := Lib.hid (Slack_fit kw1 P1.out)
  change Hid (Calls _ _ #[.slice (some ⟨w.heap.size + 1 + 1, 0, none⟩) 1 1, _, _] (((w.alloc (.cells #[.int .i64 20, .int .i64 12, .int .i64 2, .int .i64 0, .int .i64 0, .int .i64 0, .int .i64 0, .int .i64 0] 36)).alloc (.cells #[.int .i64 20, .int .i64 12, .int .i64 2, .int .i64 0, .int .i64 0, .int .i64 0, .int .i64 0, .int .i64 0] 36)).alloc (.cells #[.int .i64 5, .int .i64 2, .slice (some ⟨w.heap.size + 1, 0, none⟩) 1 1] 33)) _) at Q1
  refine (one_part _ _ _ _).mono ?_
  rintro e w' ⟨rfl, rfl⟩
  clear P1
  go_wp2_with fail
  refine Q1.out.mono ?_
  rintro e w1 ⟨rfl, hb⟩
  have HW1 := Lib.hid ((HW0.out.below B1.out).below hb)
  clear hb Q1 B1 HW0 c0 c1 c2 c3 c4 c5 c6 c7
  obtain ⟨c0, c1, c2, c3, c4, c5, c6, c7⟩ := HW1.out.c
  go_wp2_with fail
  have P2 := Lib.hid (lit_part w1 5 2 tl2 (by decide) (by decide))
  have B2 := Lib.hid (lit_bel w1 (.cells #[.int .i64 20, .int .i64 12, .int .i64 2, .int .i64 0, .int .i64 0, .int .i64 0, .int .i64 0, .int .i64 0] 36) (.cells #[.int .i64 5, .int .i64 2, .slice (some ⟨w1.heap.size, 0, none⟩) 1 1] 33))
  have Q2 := Lib.hid (Slack_fit kw2 P2.out)
  change Hid (Calls _ _ #[.slice (some ⟨w1.heap.size + 1, 0, none⟩) 1 1, _, _] ((w1.alloc (.cells #[.int .i64 20, .int .i64 12, .int .i64 2, .int .i64 0, .int .i64 0, .int .i64 0, .int .i64 0, .int .i64 0] 36)).alloc (.cells #[.int .i64 5, .int .i64 2, .slice (some ⟨w1.heap.size, 0, none⟩) 1 1] 33)) _) at Q2
  refine (one_part _ _ _ _).mono ?_
  rintro e w' ⟨rfl, rfl⟩
  clear P2
  go_wp2_with fail
  refine Q2.out.mono ?_
  rintro e w2 ⟨rfl, hb⟩
  have HW2 := Lib.hid ((HW1.out.below B2.out).below hb)
  clear hb Q2 B2 HW1 c0 c1 c2 c3 c4 c5 c6 c7
  obtain ⟨c0, c1, c2, c3, c4, c5, c6, c7⟩ := HW2.out.c
  go_wp2_with fail
  have P3 := Lib.hid (lit_part w2 5 2 tl2 (by decide) (by decide))
  have B3 := Lib.hid (lit_bel w2 (.cells #[.int .i64 20, .int .i64 12, .int .i64 2, .int .i64 0, .int .i64 0, .int .i64 0, .int .i64 0, .int .i64 0] 36) (.cells #[.int .i64 5, .int .i64 2, .slice (some ⟨w2.heap.size, 0, none⟩) 1 1] 33))
  have Q3 := Lib.hid (Test_fit kw3 P3.out)
  change Hid (Calls _ _ #[.slice (some ⟨w2.heap.size + 1, 0, none⟩) 1 1, _] ((w2.alloc (.cells #[.int .i64 20, .int .i64 12, .int .i64 2, .int .i64 0, .int .i64 0, .int .i64 0, .int .i64 0, .int .i64 0] 36)).alloc (.cells #[.int .i64 5, .int .i64 2, .slice (some ⟨w2.heap.size, 0, none⟩) 1 1] 33)) _) at Q3
  refine (one_part _ _ _ _).mono ?_
  rintro e w' ⟨rfl, rfl⟩
  clear P3
  go_wp2_with fail
  refine Q3.out.mono ?_
  rintro e w3 ⟨rfl, hb⟩
  have HW3 := Lib.hid ((HW2.out.below B3.out).below hb)
  clear hb Q3 B3 HW2 c0 c1 c2 c3 c4 c5 c6 c7
  obtain ⟨c0, c1, c2, c3, c4, c5, c6, c7⟩ := HW3.out.c
  have f2 := HW3.out.f
  have HX3 := Lib.hid (HW3.out.set 4)
  obtain ⟨d0, d1, d2, d3, d4, d5, d6, d7⟩ := HX3.out.c
  go_wp2_with fail
  have P4 := Lib.hid (lit_part (w3.setCell ⟨w.heap.size, 2, none⟩ (.int .i64 4)) 5 2 tl4 (by decide) (by decide))
  have B4 := Lib.hid (lit_bel (w3.setCell ⟨w.heap.size, 2, none⟩ (.int .i64 4)) (.cells #[.int .i64 20, .int .i64 12, .int .i64 4, .int .i64 0, .int .i64 0, .int .i64 0, .int .i64 0, .int .i64 0] 36) (.cells #[.int .i64 5, .int .i64 2, .slice (some ⟨w3.heap.size, 0, none⟩) 1 1] 33))
  simp only [size_set] at P4
  have Q4 := Lib.hid (Test_fit kw4 P4.out)
  change Hid (Calls _ _ #[.slice (some ⟨w3.heap.size + 1, 0, none⟩) 1 1, _] (((w3.setCell ⟨w.heap.size, 2, none⟩ (.int .i64 4)).alloc (.cells #[.int .i64 20, .int .i64 12, .int .i64 4, .int .i64 0, .int .i64 0, .int .i64 0, .int .i64 0, .int .i64 0] 36)).alloc (.cells #[.int .i64 5, .int .i64 2, .slice (some ⟨w3.heap.size, 0, none⟩) 1 1] 33)) _) at Q4
  refine (one_part _ _ _ _).mono ?_
  rintro e w' ⟨rfl, rfl⟩
  clear P4
  go_wp2_with fail
  refine Q4.out.mono ?_
  rintro e w4 ⟨rfl, hb⟩
  have HW4 := Lib.hid ((HX3.out.below B4.out).below hb)
  clear hb Q4 B4 HX3 HW3 f2 d0 d1 d2 d3 d4 d5 d6 d7 c0 c1 c2 c3 c4 c5 c6 c7
  obtain ⟨c0, c1, c2, c3, c4, c5, c6, c7⟩ := HW4.out.c
  have f2 := HW4.out.f
  have HX4 := Lib.hid (HW4.out.set 2)
  obtain ⟨d0, d1, d2, d3, d4, d5, d6, d7⟩ := HX4.out.c
  go_wp2_with fail
  have P5 := Lib.hid (lit_part (w4.setCell ⟨w.heap.size, 2, none⟩ (.int .i64 2)) 5 2 tl5 (by decide) (by decide))
  have B5 := Lib.hid (lit_bel (w4.setCell ⟨w.heap.size, 2, none⟩ (.int .i64 2)) (.cells #[.int .i64 20, .int .i64 12, .int .i64 2, .int .i64 0, .int .i64 0, .int .i64 0, .int .i64 0, .int .i64 0, .int .i64 5, .int .i64 5, .int .i64 2, .int .i64 0, .int .i64 0, .int .i64 0, .int .i64 0, .int .i64 0] 36) (.cells #[.int .i64 5, .int .i64 2, .slice (some ⟨w4.heap.size, 0, none⟩) 2 2] 33))
  simp only [size_set] at P5
  have Q5 := Lib.hid (Test_fit kw5 P5.out)
  change Hid (Calls _ _ #[.slice (some ⟨w4.heap.size + 1, 0, none⟩) 1 1, _] (((w4.setCell ⟨w.heap.size, 2, none⟩ (.int .i64 2)).alloc (.cells #[.int .i64 20, .int .i64 12, .int .i64 2, .int .i64 0, .int .i64 0, .int .i64 0, .int .i64 0, .int .i64 0, .int .i64 5, .int .i64 5, .int .i64 2, .int .i64 0, .int .i64 0, .int .i64 0, .int .i64 0, .int .i64 0] 36)).alloc (.cells #[.int .i64 5, .int .i64 2, .slice (some ⟨w4.heap.size, 0, none⟩) 2 2] 33)) _) at Q5
  refine (one_part _ _ _ _).mono ?_
  rintro e w' ⟨rfl, rfl⟩
  clear P5
  go_wp2_with fail
  refine Q5.out.mono ?_
  rintro e w5 ⟨rfl, hb⟩
  have HW5 := Lib.hid ((HX4.out.below B5.out).below hb)
  clear hb Q5 B5 HX4 HW4 f2 d0 d1 d2 d3 d4 d5 d6 d7 c0 c1 c2 c3 c4 c5 c6 c7
  obtain ⟨c0, c1, c2, c3, c4, c5, c6, c7⟩ := HW5.out.c
  go_wp2_with fail
  go_ret
  exact ⟨rfl, HW5.out.b⟩
end Go.Proofs.Ythhdfmpoebedcaa
