/- Partitions in memory; whether they may be asked: the program's answer. -/
import Derived.Test.YtfjeoefnpcgnnaaDelP
import Derived.Test.YtfjeoefnpcgnnaaDemB
import Derived.OwnWalk
namespace Go.Proofs.Ytfjeoefnpcgnnaa
open Go.RowKit Tk De Dl
set_option linter.unusedVariables false

/-- partitions that can be read -/
def PS (w : World) (v : Value) (ps : List Pn) : Prop :=
  ∃ a cap, v = .slice a ps.length cap ∧ ps.length ≤ cap ∧ cap ≤ maxLen ∧ (a = none → cap = 0) ∧
    (0 < ps.length → ∃ b off, a = some ⟨b, off, none⟩ ∧ ∀ i, i < ps.length → w.cell? ⟨b, off + i * 3, none⟩ = some (.int .i64 (ps.getD i p0).per) ∧
      w.cell? ⟨b, off + i * 3 + 1, none⟩ = some (.int .i64 (ps.getD i p0).bud) ∧ ∃ tv, w.cell? ⟨b, off + i * 3 + 2, none⟩ = some tv ∧ TK w tv (ps.getD i p0).n (ps.getD i p0).z ∧ (ps.getD i p0).n ≤ 2199023255552)
theorem PS.slice {w : World} {v : Value} {ps : List Pn} (h : PS w v ps) : ∃ a cap, v = .slice a ps.length cap ∧ ps.length ≤ cap ∧ cap ≤ maxLen := by obtain ⟨a, cap, h1, h2, h3, _⟩ := h; exact ⟨a, cap, h1, h2, h3⟩
theorem PS.below {w w' : World} {v : Value} {ps : List Pn} (h : PS w v ps) (q : Below w.heap.size w w') : PS w' v ps := by
  obtain ⟨a, cap, h1, h2, h3, h4, h5⟩ := h
  refine ⟨a, cap, h1, h2, h3, h4, fun hn => ?_⟩
  obtain ⟨b, off, e, hc⟩ := h5 hn
  refine ⟨b, off, e, fun i hi => ?_⟩
  obtain ⟨c1, c2, tv, c3, c4, c5⟩ := hc i hi
  exact ⟨(q.cell (World.block_lt_of_cell? _ _ c1)).trans c1, (q.cell (World.block_lt_of_cell? _ _ c2)).trans c2, tv, (q.cell (World.block_lt_of_cell? _ _ c3)).trans c3, c4.below q, c5⟩
theorem PS.nil (w : World) : PS w (.slice none 0 0) [] := ⟨none, 0, rfl, Nat.le_refl _, Nat.zero_le _, fun _ => rfl, fun h => by cases h⟩
/-- the cells of one of them -/
structure PC (w : World) (b o : Nat) (p : Pn) (a : Option Addr) (cap : Nat) : Prop where
  c0 : w.cell? ⟨b, o, none⟩ = some (.int .i64 p.per)
  c1 : w.cell? ⟨b, o + 1, none⟩ = some (.int .i64 p.bud)
  c2 : w.cell? ⟨b, o + 2, none⟩ = some (.slice a p.n cap)
  t : TK w (.slice a p.n cap) p.n p.z
  l1 : p.n ≤ cap
  l2 : cap ≤ maxLen
  l3 : p.n ≤ 2199023255552
theorem PS.at {w : World} {n cap : Nat} {a : Option Addr} {ps : List Pn} (h : PS w (.slice a n cap) ps) {i : Nat} (hi : i < n) : ∃ b off ta tcap, a = some ⟨b, off, none⟩ ∧ PC w b (off + i * 3) (ps.getD i p0) ta tcap := by
  obtain ⟨a', cap', e, h1, h2, h3, h4⟩ := h
  obtain ⟨rfl, rfl, rfl⟩ : a = a' ∧ n = ps.length ∧ cap = cap' := by simpa using e
  obtain ⟨b, off, rfl, hc⟩ := h4 (by omega)
  obtain ⟨c1, c2, tv, c3, c4, c5⟩ := hc i hi
  obtain ⟨ta, tcap, rfl, l1, l2⟩ := c4.slice
  exact ⟨b, off, ta, tcap, rfl, c1, c2, c3, c4, l1, l2, c5⟩
/-- which they are: the other one of two lists that one value is -/
theorem PS.len {w : World} {n cap : Nat} {a : Option Addr} {ps : List Pn} (h : PS w (.slice a n cap) ps) : n = ps.length := by
  obtain ⟨a', cap', e, _⟩ := h
  simpa using (by simpa using e : a = a' ∧ n = ps.length ∧ cap = cap').2.1
theorem lt_of_block {w : World} {g : Nat} {o : Obj} (h : w.heap[g]? = some o) : g < w.heap.size := (Array.getElem?_eq_some_iff.1 h).1

/-- is it one of so many -/
def one (n : Nat) (i : Int) : Bool := inn 0 ((n : Int) - 1) i
theorem one_iff {n : Nat} {i : Int} : one n i = true ↔ 0 ≤ i ∧ i < n := by
  unfold one
  rw [inn_iff]
  omega
theorem uses_hit {z : Nat → Nat → Int} {g : Int} {n k : Nat} (hk : k < n) (h : z k 5 = g) : usesN z g n = true := usesN_iff.2 ⟨k, hk, h⟩
theorem tko_at (w : World) (t : Nat → Int) {j : Nat} (hj : j < 8) : (w.alloc (tko t)).cell? ⟨w.heap.size, j, none⟩ = some (.int .i64 (t j)) := by
  have h := heap_alloc_new w (tko t)
  match j, hj with
  | 0, _ => exact cell_of_row _ _ 0 _ _ _ h
  | 1, _ => exact cell_of_row _ _ 1 _ _ _ h
  | 2, _ => exact cell_of_row _ _ 2 _ _ _ h
  | 3, _ => exact cell_of_row _ _ 3 _ _ _ h
  | 4, _ => exact cell_of_row _ _ 4 _ _ _ h
  | 5, _ => exact cell_of_row _ _ 5 _ _ _ h
  | 6, _ => exact cell_of_row _ _ 6 _ _ _ h
  | 7, _ => exact cell_of_row _ _ 7 _ _ _ h
/-- the program's test on what a task shares -/
def shP (bud : Int) (t : Nat → Int) : Bool := if t 5 = 0 then decide (t 6 = 0) && decide (t 7 = 0) else inn 1 4 (t 5) && (inn 1 bud (t 6) && inn 1 ((t 2).tdiv (t 6)) (t 7))
theorem okT_sh {bud : Int} {t : Nat → Int} (h : tOK t = true) : okT bud t = (inn 0 (t 2) (t 4) && shP bud t) := by
  have h2 := (tOK_iff.1 h).2.2.2.2.1
  rw [Bool.eq_iff_iff, okT_iff]
  unfold shP
  simp only [Bool.and_eq_true, inn_iff]
  by_cases h5 : t 5 = 0
  · rw [if_pos h5, if_pos h5]
    simp only [Bool.and_eq_true, decide_eq_true_eq]
    omega
  · rw [if_neg h5, if_neg h5]
    simp only [Bool.and_eq_true, inn_iff]
    constructor
    · rintro ⟨a1, a2, a3, a4, a5, a6, a7, a8, a9⟩
      refine ⟨⟨a1, a2⟩, ⟨by omega, a4⟩, ⟨a5, a6⟩, a7, ?_⟩
      rw [Int.tdiv_eq_ediv_of_nonneg (by omega), Int.le_ediv_iff_mul_le (by omega), Int.mul_comm]
      exact a9
    · rintro ⟨⟨a1, a2⟩, ⟨a3, a4⟩, ⟨a5, a6⟩, a7, a8⟩
      rw [Int.tdiv_eq_ediv_of_nonneg (by omega), Int.le_ediv_iff_mul_le (by omega), Int.mul_comm] at a8
      refine ⟨a1, a2, by omega, a4, a5, a6, a7, ?_, a8⟩
      have : 1 * t 7 ≤ t 6 * t 7 := Int.mul_le_mul_of_nonneg_right a5 (by omega)
      omega
end Go.Proofs.Ytfjeoefnpcgnnaa
