/- LocalKeeps: the jobs' rows; what a tick does, plainly. -/
import Derived.Test.YthhdfmpoebedcaaLocV
import Derived.Test.YthhdfmpoebedcaaLocL
import Derived.Test.YthhdfmpoebedcaaLocK
namespace Go.Proofs.Ythhdfmpoebedcaa
open Go.RowKit Tk De Dl Lo Su Go.Sort
set_option linter.unusedVariables false

def upd (f : Nat → Nat) (k x : Nat) : Nat → Nat := fun i => if i = k then x else f i
theorem upd_at (f : Nat → Nat) (k x : Nat) : upd f k x k = x := if_pos rfl
theorem upd_ne (f : Nat → Nat) {k i : Nat} (x : Nat) (h : i ≠ k) : upd f k x i = f i := if_neg h
/-- the jobs' row: of each when it must be done, how many ticks are left -/
def JS (W : World) (g n : Nat) (e l : Nat → Nat) : Prop := ∃ cur : Array Value, W.heap[g]? = some (.cells cur 43 (0, 0)) ∧ cur.size = n * 2 ∧ ∀ i, i < n → cur[i * 2]? = some (.int .i64 (e i : Nat)) ∧ cur[i * 2 + 1]? = some (.int .i64 (l i : Nat))
def NS (W : World) (g n : Nat) (x : Nat → Nat) : Prop := ∃ cur : Array Value, W.heap[g]? = some (.cells cur 3 (0, 0)) ∧ cur.size = n ∧ ∀ i, i < n → cur[i]? = some (.int .i64 (x i : Nat))
theorem JS.below {W W' : World} {g n : Nat} {e l : Nat → Nat} (h : JS W g n e l) (q : Below W.heap.size W W') : JS W' g n e l := by
  obtain ⟨cur, h1, h2⟩ := h
  exact ⟨cur, (q.block _ (lt_of_block h1)).trans h1, h2⟩
theorem NS.below {W W' : World} {g n : Nat} {x : Nat → Nat} (h : NS W g n x) (q : Below W.heap.size W W') : NS W' g n x := by
  obtain ⟨cur, h1, h2⟩ := h
  exact ⟨cur, (q.block _ (lt_of_block h1)).trans h1, h2⟩
theorem JS.drew {W : World} {g n : Nat} {e l : Nat → Nat} (h : JS W g n e l) : JS W.drew g n e l := h
theorem NS.drew {W : World} {g n : Nat} {x : Nat → Nat} (h : NS W g n x) : NS W.drew g n x := h
theorem JS.off {W : World} {g g' n o : Nat} {e l : Nat → Nat} (h : JS W g n e l) (hne : g ≠ g') (v : Value) : JS (W.setCell ⟨g', o, none⟩ v) g n e l := by
  obtain ⟨cur, h1, h2⟩ := h
  exact ⟨cur, (Below.heap_setCell _ _ _ _ hne).trans h1, h2⟩
theorem NS.off {W : World} {g g' n o : Nat} {x : Nat → Nat} (h : NS W g n x) (hne : g ≠ g') (v : Value) : NS (W.setCell ⟨g', o, none⟩ v) g n x := by
  obtain ⟨cur, h1, h2⟩ := h
  exact ⟨cur, (Below.heap_setCell _ _ _ _ hne).trans h1, h2⟩
theorem JS.at {W : World} {g n : Nat} {e l : Nat → Nat} (h : JS W g n e l) {i : Nat} (hi : i < n) : W.cell? ⟨g, i * 2, none⟩ = some (.int .i64 (e i : Nat)) ∧ W.cell? ⟨g, i * 2 + 1, none⟩ = some (.int .i64 (l i : Nat)) ∧ W.frozen? ⟨g, i * 2, none⟩ = false ∧ W.frozen? ⟨g, i * 2 + 1, none⟩ = false := by
  obtain ⟨cur, h1, h2, h3⟩ := h
  exact ⟨(cell_of_row _ _ _ _ _ _ h1).trans (h3 i hi).1, (cell_of_row _ _ _ _ _ _ h1).trans (h3 i hi).2, frozen_of_row _ _ _ _ _ h1, frozen_of_row _ _ _ _ _ h1⟩
theorem NS.at {W : World} {g n : Nat} {x : Nat → Nat} (h : NS W g n x) {i : Nat} (hi : i < n) : W.cell? ⟨g, i, none⟩ = some (.int .i64 (x i : Nat)) ∧ W.frozen? ⟨g, i, none⟩ = false := by
  obtain ⟨cur, h1, h2, h3⟩ := h
  exact ⟨(cell_of_row _ _ _ _ _ _ h1).trans (h3 i hi), frozen_of_row _ _ _ _ _ h1⟩
theorem NS.lt {W : World} {g n : Nat} {x : Nat → Nat} (h : NS W g n x) : g < W.heap.size := by obtain ⟨cur, h1, _⟩ := h; exact lt_of_block h1
theorem JS.lt {W : World} {g n : Nat} {e l : Nat → Nat} (h : JS W g n e l) : g < W.heap.size := by obtain ⟨cur, h1, _⟩ := h; exact lt_of_block h1
theorem JS.both {W : World} {g n : Nat} {e l : Nat → Nat} (h : JS W g n e l) {k : Nat} (hk : k < n) (E L : Nat) : JS ((W.setCell ⟨g, k * 2, none⟩ (.int .i64 E)).setCell ⟨g, k * 2 + 1, none⟩ (.int .i64 L)) g n (upd e k E) (upd l k L) := by
  obtain ⟨cur, h1, h2, h3⟩ := h
  refine ⟨_, heap_set_same (heap_set_same h1), by simp [h2], fun i hi => ?_⟩
  simp only [Array.getElem?_setIfInBounds, Array.size_setIfInBounds]
  by_cases hik : i = k
  · subst hik
    rw [upd_at, upd_at]
    refine ⟨?_, ?_⟩
    · rw [if_neg (by omega), if_pos rfl, if_pos (by omega)]
    · rw [if_pos rfl, if_pos (by omega)]
  · rw [upd_ne _ _ hik, upd_ne _ _ hik]
    refine ⟨?_, ?_⟩
    · rw [if_neg (by omega), if_neg (by omega)]; exact (h3 i hi).1
    · rw [if_neg (by omega), if_neg (by omega)]; exact (h3 i hi).2
theorem JS.left {W : World} {g n : Nat} {e l : Nat → Nat} (h : JS W g n e l) {k : Nat} (hk : k < n) (L : Nat) : JS (W.setCell ⟨g, k * 2 + 1, none⟩ (.int .i64 L)) g n e (upd l k L) := by
  obtain ⟨cur, h1, h2, h3⟩ := h
  refine ⟨_, heap_set_same h1, by simp [h2], fun i hi => ?_⟩
  simp only [Array.getElem?_setIfInBounds]
  by_cases hik : i = k
  · subst hik
    rw [upd_at]
    refine ⟨?_, ?_⟩
    · rw [if_neg (by omega)]; exact (h3 i hi).1
    · rw [if_pos rfl, if_pos (by omega)]
  · rw [upd_ne _ _ hik]
    refine ⟨?_, ?_⟩
    · rw [if_neg (by omega)]; exact (h3 i hi).1
    · rw [if_neg (by omega)]; exact (h3 i hi).2
theorem NS.set {W : World} {g n : Nat} {x : Nat → Nat} (h : NS W g n x) {k : Nat} (hk : k < n) (X : Nat) : NS (W.setCell ⟨g, k, none⟩ (.int .i64 X)) g n (upd x k X) := by
  obtain ⟨cur, h1, h2, h3⟩ := h
  refine ⟨_, heap_set_same h1, by simp [h2], fun i hi => ?_⟩
  simp only [Array.getElem?_setIfInBounds]
  by_cases hik : i = k
  · subst hik
    rw [upd_at, if_pos rfl, if_pos (by omega)]
  · rw [upd_ne _ _ hik, if_neg (by omega)]
    exact h3 i hi
theorem infoJb : (Try.prog.info? 43).map (fun i => (i.zero, i.size, i.bytes)) = some (some (.agg #[.int .i64 0, .int .i64 0]), 2, 16) := by kernel_rfl
theorem js_made {W : World} {g n : Nat} (h : W.heap[g]? = some (.cells (madeCells (Value.agg #[.int .i64 0, .int .i64 0]).cells (n * 2)) 43 (0, 0))) : JS W g n (fun _ => 0) (fun _ => 0) := by
  refine ⟨_, h, by simp [madeCells], fun i hi => ?_⟩
  have e : (Value.agg #[.int .i64 0, .int .i64 0]).cells = #[Value.int .i64 0, .int .i64 0] := rfl
  rw [e]
  unfold madeCells
  simp only [Array.getElem?_map]
  rw [Array.getElem?_eq_getElem (by simp; omega), Array.getElem?_eq_getElem (by simp; omega)]
  constructor
  · simp
  · simp [show (i * 2 + 1) % 2 = 1 by omega]
theorem ns_made {W : World} {g n : Nat} (h : W.heap[g]? = some (.cells (madeCells (Value.int .i64 0).cells (n * 1)) 3 (0, 0))) : NS W g n (fun _ => 0) := by
  refine ⟨_, h, by simp [madeCells], fun i hi => ?_⟩
  exact made_at (by omega)
/-- bounds of all numbers -/
def BDN (n : Nat) (e l x : Nat → Nat) : Prop := ∀ i, i < n → e i ≤ 1000 ∧ l i ≤ 1000 ∧ x i ≤ 1000
theorem BDN.more {n : Nat} {e l x : Nat → Nat} (h : BDN n e l x) (k : Nat) {E L X : Nat} (hE : E ≤ 1000) (hL : L ≤ 1000) (hX : X ≤ 1000) : BDN n (upd e k E) (upd l k L) (upd x k X) := fun i hi => by
  have := h i hi
  unfold upd
  split <;> omega
theorem BDN.less {n : Nat} {e l x : Nat → Nat} (h : BDN n e l x) (k : Nat) {L : Nat} (hL : L ≤ 1000) : BDN n e (upd l k L) x := fun i hi => by
  have := h i hi
  unfold upd
  split <;> omega
/-- the one whose end is nearest, of the first i: none with ticks left (-1), or one -/
def Near (l e : Nat → Nat) (i : Nat) (k : Int) : Prop := (k = -1 ∧ ∀ j, j < i → l j = 0) ∨ ∃ m : Nat, k = m ∧ m < i ∧ 0 < l m ∧ ∀ j, j < i → 0 < l j → e m ≤ e j
theorem near_start (l e : Nat → Nat) : Near l e 0 (-1) := Or.inl ⟨rfl, fun j hj => by omega⟩
theorem near_zero {l e : Nat → Nat} {i : Nat} {k : Int} (h : Near l e i k) (h0 : l i = 0) : Near l e (i + 1) k := by
  rcases h with ⟨rfl, h⟩ | ⟨m, rfl, h1, h2, h3⟩
  · exact Or.inl ⟨rfl, fun j hj => by by_cases e' : j = i; · rw [e']; exact h0
                                      · exact h j (by omega)⟩
  · refine Or.inr ⟨m, rfl, by omega, h2, fun j hj hl => ?_⟩
    by_cases e' : j = i
    · rw [e', h0] at hl; omega
    · exact h3 j (by omega) hl
theorem near_keep {l e : Nat → Nat} {i m : Nat} (h : Near l e i (m : Int)) (h0 : e m ≤ e i) : Near l e (i + 1) (m : Int) := by
  rcases h with ⟨h, _⟩ | ⟨m', h, h1, h2, h3⟩
  · omega
  · obtain rfl : m = m' := by omega
    refine Or.inr ⟨m, rfl, by omega, h2, fun j hj hl => ?_⟩
    by_cases e' : j = i
    · rw [e']; exact h0
    · exact h3 j (by omega) hl
theorem near_take {l e : Nat → Nat} {i : Nat} {k : Int} (h : Near l e i k) (h0 : 0 < l i) (hk : k = -1 ∨ ∃ m : Nat, k = m ∧ e i < e m) : Near l e (i + 1) (i : Int) := by
  refine Or.inr ⟨i, rfl, by omega, h0, fun j hj hl => ?_⟩
  by_cases e' : j = i
  · rw [e']; exact Nat.le_refl _
  · rcases h with ⟨rfl, h⟩ | ⟨m, rfl, h1, h2, h3⟩
    · have := h j (by omega); omega
    · have h4 := h3 j (by omega) hl
      rcases hk with hk | ⟨m', hm, h5⟩
      · omega
      · obtain rfl : m = m' := by omega
        omega
end Go.Proofs.Ythhdfmpoebedcaa
