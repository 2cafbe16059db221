/- Four tasks, out of any. -/
import Derived.Test.YtmheggedlepdlaaStaQ
import Derived.StillTailTactics
namespace Go.Proofs.Ytmheggedlepdlaa
open Go.RowKit Lv Sk Go.Sort
set_option linter.unusedVariables false

/-- a row of four tasks' cells, all numbers -/
def FR (w : World) (g : Nat) : Prop := ∃ c, w.heap[g]? = some (.cells c 32 (0, 0)) ∧ c.size = 32 ∧ ∀ p, p < 32 → ∃ x, c[p]? = some (.int .i64 x)
theorem FR.lt {w : World} {g : Nat} (h : FR w g) : g < w.heap.size := by obtain ⟨c, h1, _⟩ := h; exact lt_of_block h1
theorem FR.cell {w : World} {g : Nat} (h : FR w g) {p : Nat} (hp : p < 32) : ∃ x, w.cell? ⟨g, p, none⟩ = some (.int .i64 x) := by
  obtain ⟨c, h1, h2, h3⟩ := h
  obtain ⟨x, hx⟩ := h3 p hp
  exact ⟨x, (cell_of_row _ _ p _ _ _ h1).trans hx⟩
theorem FR.free {w : World} {g : Nat} (h : FR w g) (p : Nat) : w.frozen? ⟨g, p, none⟩ = false := by obtain ⟨c, h1, _⟩ := h; exact frozen_of_row _ _ _ _ _ h1
theorem FR.keep {w w' : World} {g : Nat} (h : FR w g) (q : w'.heap[g]? = w.heap[g]?) : FR w' g := by obtain ⟨c, h1, h2⟩ := h; exact ⟨c, q.trans h1, h2⟩
theorem FR.set {w : World} {g p : Nat} (h : FR w g) (x : Int) : FR (w.setCell ⟨g, p, none⟩ (.int .i64 x)) g := by
  obtain ⟨c, h1, h2, h3⟩ := h
  refine ⟨c.setIfInBounds p (.int .i64 x), ?_, by simpa using h2, fun q hq => ?_⟩
  · have hl := lt_of_block h1
    have := (Array.getElem?_eq_some_iff.1 h1).2
    simp [World.setCell, Array.getElem?_modify, h1]
  · by_cases e : q = p
    · subst e
      exact ⟨x, by rw [Array.getElem?_setIfInBounds_self_of_lt (by omega)]⟩
    · obtain ⟨y, hy⟩ := h3 q hq
      exact ⟨y, by rw [Array.getElem?_setIfInBounds_ne (by omega)]; exact hy⟩
theorem FR.tk {w : World} {g : Nat} (h : FR w g) : ∃ z, TK w (.slice (some ⟨g, 0, none⟩) 4 4) 4 z := by
  obtain ⟨c, h1, h2, h3⟩ := h
  refine ⟨fun i j => match c[i * 8 + j]? with | some (.int _ x) => x | _ => 0, ?_⟩
  refine ⟨_, 4, rfl, Nat.le_refl _, by decide, (fun e => by cases e), fun _ => ⟨g, 0, rfl, fun i hi j hj => ?_⟩⟩
  obtain ⟨x, hx⟩ := h3 (i * 8 + j) (by omega)
  rw [Nat.zero_add, cell_of_row _ _ (i * 8 + j) _ _ _ h1, hx]
  simp only [hx]
/-- eight cells are set -/
def w8 (w : World) (g p : Nat) (x0 x1 x2 x3 x4 x5 x6 x7 : Int) : World :=
  ((((((((w.setCell ⟨g, p, none⟩ (.int .i64 x0)).setCell ⟨g, p + 1, none⟩ (.int .i64 x1)).setCell ⟨g, p + 2, none⟩ (.int .i64 x2)).setCell ⟨g, p + 3, none⟩ (.int .i64 x3)).setCell ⟨g, p + 4, none⟩ (.int .i64 x4)).setCell ⟨g, p + 5, none⟩ (.int .i64 x5)).setCell ⟨g, p + 6, none⟩ (.int .i64 x6)).setCell ⟨g, p + 7, none⟩ (.int .i64 x7))
theorem FR.set8 {w : World} {g : Nat} (h : FR w g) (p : Nat) (x0 x1 x2 x3 x4 x5 x6 x7 : Int) : FR (w8 w g p x0 x1 x2 x3 x4 x5 x6 x7) g := (((((((h.set _).set _).set _).set _).set _).set _).set _).set _
theorem below_w8 {w w1 : World} {B g : Nat} (h : Below B w w1) (hg : B ≤ g) (p : Nat) (x0 x1 x2 x3 x4 x5 x6 x7 : Int) : Below B w (w8 w1 g p x0 x1 x2 x3 x4 x5 x6 x7) :=
  (((((((h.setCell hg _).setCell hg _).setCell hg _).setCell hg _).setCell hg _).setCell hg _).setCell hg _).setCell hg _
theorem make4 (w : World) : (Instr.makeSlice 22 (.int .i64 4) (.int .i64 4)).run Try.prog w = .ok (.slice (some ⟨w.heap.size, 0, none⟩) 4 4) (w.alloc (.cells (Array.replicate 32 (.int .i64 0)) 32)) := by kernel_rfl
theorem FR.new (w : World) : FR (w.alloc (.cells (Array.replicate 32 (.int .i64 0)) 32)) w.heap.size :=
  ⟨_, heap_alloc_new w _, by simp, fun p hp => ⟨0, by rw [Array.getElem?_replicate, if_pos hp]⟩⟩
set_option maxHeartbeats 4000000 in
theorem four_any {w : World} {v : Value} {n : Nat} {z : Nat → Nat → Int} (h : TK w v n z) : Calls Try.prog 12 #[v] w (fun e w' => ∃ r z4, e = .returned r ∧ TK w' r 4 z4 ∧ Below w.heap.size w w') := by
  obtain ⟨a, cap, rfl, hn1, hn2⟩ := h.slice
  have hmx : n ≤ 9223372036854775807 := by unfold maxLen at hn2; omega
  have HT := Lib.hid h
  have HR0 := Lib.hid (FR.new w)
  have HB0 := Lib.hid ((Below.refl _ w).alloc (Nat.le_refl _) (.cells (Array.replicate 32 (.int .i64 0)) 32))
  have hmk := make4
  clear h
  go_enter Try.func12, Try.ntmps12
  go_wp2_with fail
  clear hmk
  generalize w.alloc (.cells (Array.replicate 32 (.int .i64 0)) 32) = w1 at *
  obtain ⟨g, hg⟩ : ∃ g, g = w.heap.size := ⟨_, rfl⟩
  have HG := Lib.hid hg
  rw [← hg] at HR0 ⊢
  clear hg
  go_loopw [4] (fun i wr => ∃ k : Nat, k ≤ 4 ∧ i = .int .i64 k ∧ Hid (FR wr g) ∧ Hid (Below w.heap.size w wr)) (fun i _ => 4 - (intOf i).toNat)
  case atStart => exact ⟨0, by omega, rfl, HR0.out, HB0.out⟩
  case round =>
    clear HR0 HB0
    obtain ⟨k, hk, rfl, HR, HB⟩ := hrel
    by_cases hlt : k < 4
    · obtain ⟨x0, y0⟩ := HR.out.cell (p := k * 8) (by omega)
      obtain ⟨x1, y1⟩ := HR.out.cell (p := k * 8 + 1) (by omega)
      obtain ⟨x2, y2⟩ := HR.out.cell (p := k * 8 + 2) (by omega)
      obtain ⟨x3, y3⟩ := HR.out.cell (p := k * 8 + 3) (by omega)
      obtain ⟨x4, y4⟩ := HR.out.cell (p := k * 8 + 4) (by omega)
      obtain ⟨x5, y5⟩ := HR.out.cell (p := k * 8 + 5) (by omega)
      obtain ⟨x6, y6⟩ := HR.out.cell (p := k * 8 + 6) (by omega)
      obtain ⟨x7, y7⟩ := HR.out.cell (p := k * 8 + 7) (by omega)
      have z0 := HR.out.free (k * 8)
      have z1 := HR.out.free (k * 8 + 1)
      have z2 := HR.out.free (k * 8 + 2)
      have z3 := HR.out.free (k * 8 + 3)
      have z4 := HR.out.free (k * 8 + 4)
      have z5 := HR.out.free (k * 8 + 5)
      have z6 := HR.out.free (k * 8 + 6)
      have z7 := HR.out.free (k * 8 + 7)
      have hgw : w.heap.size ≤ g := by rw [HG.out]; exact Nat.le_refl _
      have HR5 := Lib.hid (HR.out.set8 (k * 8) 0 (1 + (k : Int)) 0 255 0 0 0 0)
      have HB5 := Lib.hid (below_w8 HB.out hgw (k * 8) 0 (1 + (k : Int)) 0 255 0 0 0 0)
      by_cases hkn : k < n
      · obtain ⟨b, off, rfl, _, c1, _, c3, _⟩ := HT.out.at hkn
        have C1 := Lib.hid ((HB5.out.cell (lt_of_cell c1)).trans c1)
        have C3 := Lib.hid ((HB5.out.cell (lt_of_cell c3)).trans c3)
        generalize z k 1 = t1 at *
        generalize z k 3 = t3 at *
        obtain ⟨q, hq⟩ : ∃ q, q = bring t1 64 := ⟨_, rfl⟩
        have HQ := Lib.hid (fun W => bring_any t1 64 W (by decide) (by decide))
        rw [← hq] at HQ
        have hk0 : (0 : Int) ≤ k := by omega
        have hk4 : (k : Int) < 4 := by omega
        have hkI : (k : Int) < (n : Int) := by omega
        clear c1 c3 hq
        go_wp2_with fail
        clear y0 y1 y2 y3 y4 y5 y6 y7 z0 z1 z2 z3 z4 z5 z6 z7 x0 x1 x2 x3 x4 x5 x6 x7
        change Code.wp Try.prog _ _ _ (w8 wr g (k * 8) 0 (1 + (k : Int)) 0 255 0 0 0 0)
        generalize w8 wr g (k * 8) 0 (1 + (k : Int)) 0 255 0 0 0 0 = w5 at *
        clear HR HB
        obtain ⟨x0, y0⟩ := (show FR w5.drew g from HR5.out).cell (p := k * 8) (by omega)
        obtain ⟨x1, y1⟩ := (show FR w5.drew g from HR5.out).cell (p := k * 8 + 1) (by omega)
        obtain ⟨x2, y2⟩ := (show FR w5.drew g from HR5.out).cell (p := k * 8 + 2) (by omega)
        obtain ⟨x3, y3⟩ := (show FR w5.drew g from HR5.out).cell (p := k * 8 + 3) (by omega)
        obtain ⟨x4, y4⟩ := (show FR w5.drew g from HR5.out).cell (p := k * 8 + 4) (by omega)
        obtain ⟨x5, y5⟩ := (show FR w5.drew g from HR5.out).cell (p := k * 8 + 5) (by omega)
        obtain ⟨x6, y6⟩ := (show FR w5.drew g from HR5.out).cell (p := k * 8 + 6) (by omega)
        obtain ⟨x7, y7⟩ := (show FR w5.drew g from HR5.out).cell (p := k * 8 + 7) (by omega)
        have z0 := (show FR w5.drew g from HR5.out).free (k * 8)
        have z1 := (show FR w5.drew g from HR5.out).free (k * 8 + 1)
        have z2 := (show FR w5.drew g from HR5.out).free (k * 8 + 2)
        have z3 := (show FR w5.drew g from HR5.out).free (k * 8 + 3)
        have z4 := (show FR w5.drew g from HR5.out).free (k * 8 + 4)
        have z5 := (show FR w5.drew g from HR5.out).free (k * 8 + 5)
        have z6 := (show FR w5.drew g from HR5.out).free (k * 8 + 6)
        have z7 := (show FR w5.drew g from HR5.out).free (k * 8 + 7)
        have c1 : w5.drew.cell? ⟨b, off + k * 8 + 1, none⟩ = some (.int .i64 t1) := C1.out
        have c3 : w5.drew.cell? ⟨b, off + k * 8 + 3, none⟩ = some (.int .i64 t3) := C3.out
        have HR6 := Lib.hid ((show FR w5.drew g from HR5.out).set8 (k * 8) 0 q 0 t3 0 0 0 0)
        have HB6 := Lib.hid (below_w8 HB5.out.drew hgw (k * 8) 0 q 0 t3 0 0 0 0)
        clear HR5 HB5 C1 C3
        have mixed : Try.prog.follows .mixedOrders = true := by kernel_rfl
        refine wp_region_still_tail 15 mixed (by kernel_rfl) ?_
        simp only [List.take_succ_cons, List.take_zero, List.drop_succ_cons, List.drop_zero]
        change wpStill _ _ w5.drew _ _ _
        repeat still_step
        still_call (HQ.out _)
        repeat still_step
        refine wpStill_nil ?_
        clear c1 c3
        change wpList _ _ _ _ _ w5.drew
        generalize w5.drew = w6 at *
        go_wp2_with fail
        go_roundw
        case rel => exact ⟨k + 1, by omega, by go_num, HR6.out, HB6.out⟩
        case measure => simp [intOf]; omega
      · go_wp2_with fail
        go_roundw
        case rel => exact ⟨k + 1, by omega, by go_num, HR5.out, HB5.out⟩
        case measure => simp [intOf]; omega
    · obtain rfl : k = 4 := by omega
      obtain ⟨z4, ht⟩ := HR.out.tk
      have HF : Hid (∃ r z4, Ending.returned (.slice (some ⟨g, 0, none⟩) 4 4) = .returned r ∧ TK wr r 4 z4 ∧ Below w.heap.size w wr) := ⟨_, z4, rfl, ht, HB.out⟩
      clear ht
      go_wp2_with fail
      go_ret
      exact HF.out
end Go.Proofs.Ytmheggedlepdlaa
