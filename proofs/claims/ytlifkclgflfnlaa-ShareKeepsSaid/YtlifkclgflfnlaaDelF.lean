/- Of, More: the program's. -/
import Derived.Test.YtlifkclgflfnlaaDelE
namespace Go.Proofs.Ytlifkclgflfnlaa
open Go.RowKit Tk De Dl
set_option linter.unusedVariables false

/-- the first k numbers are written, the rest are nothing -/
def FI (cur : Array Value) (F : Nat → Int) (k n : Nat) : Prop := cur = (((List.range k).map fun i => Value.int .i64 (F i)) ++ List.replicate (n - k) (Value.int .i64 0)).toArray
theorem FI.start (F : Nat → Int) (n : Nat) : FI (madeCells #[.int .i64 0] n) F 0 n := by
  unfold FI madeCells
  apply Array.ext_getElem?
  intro i
  simp only [Array.getElem?_map, List.range_zero, List.map_nil, List.nil_append, Nat.sub_zero, List.getElem?_toArray]
  by_cases h : i < n
  · rw [Array.getElem?_eq_getElem (by simpa using h), List.getElem?_eq_getElem (by simpa using h)]
    simp [Nat.mod_one]
  · rw [Array.getElem?_eq_none (by simpa using h), List.getElem?_eq_none (by simpa using h)]
    rfl
theorem FI.size {cur : Array Value} {F : Nat → Int} {k n : Nat} (h : FI cur F k n) (hk : k ≤ n) : cur.size = n := by rw [h]; simp; omega
theorem FI.step {cur : Array Value} {F : Nat → Int} {k n : Nat} (h : FI cur F k n) (hk : k < n) : FI (cur.setIfInBounds k (.int .i64 (F k))) F (k + 1) n := by
  have hs := h.size (by omega)
  unfold FI at h ⊢
  apply Array.ext_getElem?
  intro i
  rw [Array.getElem?_setIfInBounds, h]
  simp only [List.getElem?_toArray, List.size_toArray, List.length_append, List.length_map, List.length_range, List.length_replicate]
  by_cases e : k = i
  · subst e
    rw [if_pos rfl, if_pos (by omega), List.getElem?_append_left (by simp)]
    simp
  · rw [if_neg e]
    by_cases hl : i < k
    · rw [List.getElem?_append_left (by simpa using hl), List.getElem?_append_left (by simp; omega)]
      rw [List.getElem?_map, List.getElem?_map, List.getElem?_range (by omega), List.getElem?_range (by omega)]
    · rw [List.getElem?_append_right (by simp; omega), List.getElem?_append_right (by simp; omega)]
      simp only [List.length_map, List.length_range]
      by_cases hn : i < n
      · rw [List.getElem?_replicate, List.getElem?_replicate, if_pos (by omega), if_pos (by omega)]
      · rw [List.getElem?_replicate, List.getElem?_replicate, if_neg (by omega), if_neg (by omega)]
theorem fi_row {w : World} {g n : Nat} {F : Nat → Int} {cur : Array Value} (h : w.heap[g]? = some (.cells cur 3 (0, 0))) (hF : FI cur F n n) (hn : n ≤ maxLen) : IS w (.slice (some ⟨g, 0, none⟩) n n) ((List.range n).map F) := by
  have hl : ((List.range n).map F).length = n := by simp
  refine ⟨_, _, by rw [hl], by rw [hl]; exact Nat.le_refl _, hn, (fun h => by cases h), fun hp => ⟨g, 0, rfl, fun i hi => ?_⟩⟩
  rw [hl] at hi
  rw [cell_of_row w g (0 + i) _ _ _ h, Nat.zero_add, hF, Nat.sub_self]
  simp [List.getD, hi]
theorem cell_at {w : World} {g i : Nat} {c : Array Value} {t : TypeId} (h : w.heap[g]? = some (.cells c t (0, 0))) (hi : i < c.size) : ∃ u, w.cell? ⟨g, i, none⟩ = some u :=
  ⟨c[i], cell_of_row _ _ i _ _ _ h |>.trans (Array.getElem?_eq_getElem hi)⟩
/-- numbers and an error are answered -/
def MoP (x : List Int × Int) (w : World) (e : Ending) (w' : World) : Prop := ∃ v, e = .returned (.tuple #[v, .int .i64 x.2]) ∧ IS w' v x.1 ∧ Below w.heap.size w w'
/-- they lie in a row that is new -/
def MoQ (x : List Int × Int) (w : World) (e : Ending) (w' : World) : Prop := ∃ v, e = .returned (.tuple #[v, .int .i64 x.2]) ∧ IS w' v x.1 ∧ Below w.heap.size w w' ∧ ∀ b, v.ownBlock = some b → w.heap.size ≤ b
theorem more_start {w V : World} {o : Obj} {n : Nat} (F : Nat → Int)
    (hown : V.ownsRow (w.alloc o).heap.size 3 1 (.slice (some ⟨(w.alloc o).heap.size, 0, none⟩) n n) n (madeCells (Value.int .i64 0).cells (n * 1)).toList)
    (hgrow : (w.alloc o).grownBy V none) : Hid (V.heap[w.heap.size + 1]? = some (.cells (madeCells (Value.int .i64 0).cells (n * 1)) 3 (0, 0))) ∧ Hid (Below (w.heap.size + 1) (w.alloc o) V) ∧ Hid (FI (madeCells (Value.int .i64 0).cells (n * 1)) F 0 n) := by
  have hk := (own_full hown).1
  rw [World.size_alloc] at hk
  refine ⟨hk, (Below.refl _ _).grown hgrow (by rw [World.size_alloc]; exact Nat.le_refl _) (fun k hk => by cases hk), ?_⟩
  unfold Hid
  rw [Nat.mul_one]
  exact FI.start F n
end Go.Proofs.Ytlifkclgflfnlaa
