/- The contracts of package ticks for two numbers: each answers what Plain says; what was there is as it was. -/
import Derived.Test.YtldnlioafneejaaWalksA
namespace Go.Proofs.Ytldnlioafneejaa
open Go.RowKit Tk
set_option linter.unusedVariables false

/-- a slice's address in a world: its cells are these numbers -/
def Row (w : World) (a : Option Addr) (zs : List Int) : Prop :=
  zs = [] ∨ ∃ b off, a = some ⟨b, off, none⟩ ∧ ∀ i, i < zs.length → w.cell? ⟨b, off + i, none⟩ = some (.int .i64 (zs.getD i 0))

theorem lt_of_cell {w : World} {b off : Nat} {v : Value} (h : w.cell? ⟨b, off, none⟩ = some v) : b < w.heap.size := by
  rcases Nat.lt_or_ge b w.heap.size with hl | hl
  · exact hl
  · simp [World.cell?, Array.getElem?_eq_none hl] at h
theorem Row.below {w w' : World} {a : Option Addr} {zs : List Int} (h : Row w a zs) (hb : Below w.heap.size w w') : Row w' a zs := by
  rcases h with rfl | ⟨b, off, rfl, hc⟩
  · exact Or.inl rfl
  · refine Or.inr ⟨b, off, rfl, fun i hi => ?_⟩
    have := hc i hi
    rw [hb.cell (p := ⟨b, off + i, none⟩) (lt_of_cell this)]
    exact this
theorem Row.made (w : World) (zs : List Int) : Row (w.alloc (.cells (zs.map (Value.int .i64)).toArray 3)) (some ⟨w.heap.size, 0, none⟩) zs := by
  refine Or.inr ⟨w.heap.size, 0, rfl, fun i hi => ?_⟩
  have e : (w.alloc (.cells (zs.map (Value.int .i64)).toArray 3)).heap[w.heap.size]? = some (.cells (zs.map (Value.int .i64)).toArray 3) := by
    show (w.heap.push _)[w.heap.size]? = _
    simp
  simp only [World.cell?, e]
  simp [List.getElem?_eq_getElem hi, List.getD]
theorem below_alloc (w : World) (o : Obj) : Below w.heap.size w (w.alloc o) := (Below.refl _ _).alloc (Nat.le_refl _) o

/-- all of a list are ticks, as the loop finds it -/
theorem all_step (zs : List Int) (k : Nat) (h : k < zs.length) (e : tk (zs.getD k 0) = true) (ht : (zs.take k).all tk = true) : (zs.take (k + 1)).all tk = true := by
  rw [List.take_add_one, List.all_append, ht]
  simp only [List.getD, List.getElem?_eq_getElem h, Option.getD_some] at e
  simp [List.getElem?_eq_getElem h, e]
theorem all_no (zs : List Int) (k : Nat) (h : k < zs.length) (e : tk (zs.getD k 0) = false) : zs.all tk = false := by
  simp only [List.getD, List.getElem?_eq_getElem h, Option.getD_some] at e
  rw [List.all_eq_false]
  exact ⟨zs[k], List.getElem_mem h, by simp [e]⟩

end Go.Proofs.Ytldnlioafneejaa
