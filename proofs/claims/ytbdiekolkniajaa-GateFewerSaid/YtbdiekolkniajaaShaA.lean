/- Servers in memory; rows of numbers. -/
import Derived.Test.YtbdiekolkniajaaZf
import Derived.Test.YtbdiekolkniajaaZp
import Derived.Deep.OwnRows
namespace Go.Proofs.Ytbdiekolkniajaa.Sh
open Go.RowKit Tk De Dl Go.Proofs.Ytbdiekolkniajaa.Lo
set_option linter.unusedVariables false

/-- servers that can be read: their tasks are not looked at -/
def SV (w : World) (v : Value) (n : Nat) (p b : Nat → Int) : Prop :=
  ∃ a cap, v = .slice a n cap ∧ n ≤ cap ∧ cap ≤ maxLen ∧ (a = none → cap = 0) ∧
    (0 < n → ∃ g off, a = some ⟨g, off, none⟩ ∧ ∀ i, i < n → w.cell? ⟨g, off + i * 3, none⟩ = some (.int .i64 (p i)) ∧ w.cell? ⟨g, off + i * 3 + 1, none⟩ = some (.int .i64 (b i)) ∧ ∃ ta tn tc, w.cell? ⟨g, off + i * 3 + 2, none⟩ = some (.slice ta tn tc))
theorem SV.slice {w : World} {v : Value} {n : Nat} {p b : Nat → Int} (h : SV w v n p b) : ∃ a cap, v = .slice a n cap ∧ n ≤ cap ∧ cap ≤ maxLen := by obtain ⟨a, cap, h1, h2, h3, _⟩ := h; exact ⟨a, cap, h1, h2, h3⟩
theorem SV.below {w w' : World} {v : Value} {n : Nat} {p b : Nat → Int} (h : SV w v n p b) (q : Below w.heap.size w w') : SV w' v n p b := by
  obtain ⟨a, cap, h1, h2, h3, h4, h5⟩ := h
  refine ⟨a, cap, h1, h2, h3, h4, fun hn => ?_⟩
  obtain ⟨g, off, e, hc⟩ := h5 hn
  refine ⟨g, off, e, fun i hi => ?_⟩
  obtain ⟨c1, c2, ta, tn, tc, c3⟩ := hc i hi
  exact ⟨(q.cell (World.block_lt_of_cell? _ _ c1)).trans c1, (q.cell (World.block_lt_of_cell? _ _ c2)).trans c2, ta, tn, tc, (q.cell (World.block_lt_of_cell? _ _ c3)).trans c3⟩
theorem SV.nil (w : World) (p b : Nat → Int) : SV w (.slice none 0 0) 0 p b := ⟨none, 0, rfl, Nat.le_refl _, Nat.zero_le _, fun _ => rfl, fun h => by cases h⟩
theorem SV.at {w : World} {n cap m : Nat} {a : Option Addr} {p b : Nat → Int} (h : SV w (.slice a n cap) m p b) {i : Nat} (hi : i < n) : ∃ g off ta tn tc, a = some ⟨g, off, none⟩ ∧ w.cell? ⟨g, off + i * 3, none⟩ = some (.int .i64 (p i)) ∧ w.cell? ⟨g, off + i * 3 + 1, none⟩ = some (.int .i64 (b i)) ∧ w.cell? ⟨g, off + i * 3 + 2, none⟩ = some (.slice ta tn tc) := by
  obtain ⟨a', cap', e, h1, h2, h3, h4⟩ := h
  obtain ⟨rfl, rfl, rfl⟩ : a = a' ∧ n = m ∧ cap = cap' := by simpa using e
  obtain ⟨g, off, rfl, hc⟩ := h4 (by omega)
  obtain ⟨c1, c2, ta, tn, tc, c3⟩ := hc i hi
  exact ⟨g, off, ta, tn, tc, rfl, c1, c2, c3⟩
theorem SV.congr {w : World} {v : Value} {n : Nat} {p b p' b' : Nat → Int} (h : SV w v n p b) (e : ∀ i, i < n → p i = p' i ∧ b i = b' i) : SV w v n p' b' := by
  obtain ⟨a, cap, h1, h2, h3, h4, h5⟩ := h
  refine ⟨a, cap, h1, h2, h3, h4, fun hn => ?_⟩
  obtain ⟨g, off, hg, hc⟩ := h5 hn
  refine ⟨g, off, hg, fun i hi => ?_⟩
  rw [← (e i hi).1, ← (e i hi).2]
  exact hc i hi
theorem SV.take {w : World} {a : Option Addr} {n cap m : Nat} {p b : Nat → Int} (h : SV w (.slice a n cap) m p b) {j : Nat} (hj : j ≤ n) : SV w (.slice a j cap) j p b := by
  obtain ⟨a', cap', e, h1, h2, h3, h4⟩ := h
  obtain ⟨rfl, rfl, rfl⟩ : a = a' ∧ n = m ∧ cap = cap' := by simpa using e
  refine ⟨_, _, rfl, by omega, h2, h3, fun hp => ?_⟩
  obtain ⟨g, off, rfl, hc⟩ := h4 (by omega)
  exact ⟨g, off, rfl, fun i hi => hc i (by omega)⟩
/-- the periods, the budgets of partitions -/
def sp (ps : List Pn) (i : Nat) : Int := (ps.getD i p0).per
def sb (ps : List Pn) (i : Nat) : Int := (ps.getD i p0).bud
theorem sv_of_ps {w : World} {v : Value} {ps : List Pn} (h : PS w v ps) : SV w v ps.length (sp ps) (sb ps) := by
  obtain ⟨a, cap, h1, h2, h3, h4, h5⟩ := h
  refine ⟨a, cap, h1, h2, h3, h4, fun hn => ?_⟩
  obtain ⟨g, off, e, hc⟩ := h5 hn
  refine ⟨g, off, e, fun i hi => ?_⟩
  obtain ⟨c1, c2, tv, c3, c4, c5⟩ := hc i hi
  obtain ⟨ta, tc, rfl, _⟩ := c4.slice
  exact ⟨c1, c2, ta, _, tc, c3⟩
/-- numbers that can be read -/
def NV (w : World) (v : Value) (n : Nat) (x : Nat → Nat) : Prop := ∃ a cap, v = .slice a n cap ∧ n ≤ cap ∧ cap ≤ maxLen ∧ (0 < n → ∃ g off, a = some ⟨g, off, none⟩ ∧ ∀ i, i < n → w.cell? ⟨g, off + i, none⟩ = some (.int .i64 (x i : Nat)))
theorem NV.slice {w : World} {v : Value} {n : Nat} {x : Nat → Nat} (h : NV w v n x) : ∃ a cap, v = .slice a n cap ∧ n ≤ cap ∧ cap ≤ maxLen := by obtain ⟨a, cap, h1, h2, h3, _⟩ := h; exact ⟨a, cap, h1, h2, h3⟩
theorem NV.below {w w' : World} {v : Value} {n : Nat} {x : Nat → Nat} (h : NV w v n x) (q : Below w.heap.size w w') : NV w' v n x := by
  obtain ⟨a, cap, h1, h2, h3, h5⟩ := h
  exact ⟨a, cap, h1, h2, h3, fun hn => by obtain ⟨b, off, e, hc⟩ := h5 hn; exact ⟨b, off, e, fun i hi => (q.cell (World.block_lt_of_cell? _ _ (hc i hi))).trans (hc i hi)⟩⟩
theorem NV.at {w : World} {n cap m : Nat} {a : Option Addr} {x : Nat → Nat} (h : NV w (.slice a n cap) m x) {i : Nat} (hi : i < n) : ∃ b off, a = some ⟨b, off, none⟩ ∧ w.cell? ⟨b, off + i, none⟩ = some (.int .i64 (x i : Nat)) := by
  obtain ⟨a', cap', e, h1, h2, h4⟩ := h
  obtain ⟨rfl, rfl, rfl⟩ : a = a' ∧ n = m ∧ cap = cap' := by simpa using e
  obtain ⟨b, off, rfl, hc⟩ := h4 (by omega)
  exact ⟨b, off, rfl, hc i hi⟩
/-- a row of the call's own, of numbers -/
def NS (W : World) (g n : Nat) (x : Nat → Nat) : Prop := ∃ cur : Array Value, W.heap[g]? = some (.cells cur 3 (0, 0)) ∧ cur.size = n ∧ ∀ i, i < n → cur[i]? = some (.int .i64 (x i : Nat))
theorem NS.lt {W : World} {g n : Nat} {x : Nat → Nat} (h : NS W g n x) : g < W.heap.size := by obtain ⟨cur, h1, _⟩ := h; exact lt_of_block h1
theorem NS.below {W W' : World} {g n : Nat} {x : Nat → Nat} (h : NS W g n x) (q : Below W.heap.size W W') : NS W' g n x := by
  obtain ⟨cur, h1, h2⟩ := h
  exact ⟨cur, (q.block _ (lt_of_block h1)).trans h1, h2⟩
theorem NS.drewN {W : World} {g n : Nat} {x : Nat → Nat} (h : NS W g n x) (m : Nat) : NS (W.drewN m) g n x := h
theorem NS.drew {W : World} {g n : Nat} {x : Nat → Nat} (h : NS W g n x) : NS W.drew g n x := h
theorem NS.off {W : World} {g g' n o : Nat} {x : Nat → Nat} (h : NS W g n x) (hne : g ≠ g') (v : Value) : NS (W.setCell ⟨g', o, none⟩ v) g n x := by
  obtain ⟨cur, h1, h2⟩ := h
  exact ⟨cur, (Below.heap_setCell _ _ _ _ hne).trans h1, h2⟩
theorem NS.at {W : World} {g n : Nat} {x : Nat → Nat} (h : NS W g n x) {i : Nat} (hi : i < n) : W.cell? ⟨g, i, none⟩ = some (.int .i64 (x i : Nat)) ∧ W.frozen? ⟨g, i, none⟩ = false := by
  obtain ⟨cur, h1, h2, h3⟩ := h
  exact ⟨(cell_of_row _ _ _ _ _ _ h1).trans (h3 i hi), frozen_of_row _ _ _ _ _ h1⟩
theorem NS.set {W : World} {g n : Nat} {x : Nat → Nat} (h : NS W g n x) {k : Nat} (hk : k < n) (X : Nat) : NS (W.setCell ⟨g, k, none⟩ (.int .i64 X)) g n (upd x k X) := by
  obtain ⟨cur, h1, h2, h3⟩ := h
  refine ⟨_, heap_set_same h1, by simp [h2], fun i hi => ?_⟩
  simp only [Array.getElem?_setIfInBounds]
  by_cases hik : i = k
  · subst hik
    rw [upd_at, if_pos rfl, if_pos (by omega)]
  · rw [upd_ne _ _ hik, if_neg (by omega)]
    exact h3 i hi
theorem ns_made {W : World} {g n : Nat} (h : W.heap[g]? = some (.cells (madeCells #[.int .i64 0] n) 3 (0, 0))) : NS W g n (fun _ => 0) := ⟨_, h, by simp [madeCells], fun i hi => made_at (by omega)⟩
theorem NS.nv {W : World} {g n : Nat} {x : Nat → Nat} (h : NS W g n x) (hn : n ≤ maxLen) : NV W (.slice (some ⟨g, 0, none⟩) n n) n x := ⟨_, _, rfl, Nat.le_refl _, hn, fun _ => ⟨g, 0, rfl, fun i hi => by rw [Nat.zero_add]; exact (h.at hi).1⟩⟩
theorem wr2 {x : Int} (h0 : 0 ≤ x) (h : x ≤ 1099511627776) : IntKind.i64.wrap x = x ∧ wrap64 x = x := ⟨IntWalk.i64_in _ (by omega), by unfold wrap64; omega⟩
end Go.Proofs.Ytbdiekolkniajaa.Sh
