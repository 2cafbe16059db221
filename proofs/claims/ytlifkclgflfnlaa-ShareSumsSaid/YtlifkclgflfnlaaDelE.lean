/- lookAt; Wait, More, Of: the program's. -/
import Derived.Test.YtlifkclgflfnlaaDelD
namespace Go.Proofs.Ytlifkclgflfnlaa
open Go.RowKit Tk De Dl Go.Sort
set_option linter.unusedVariables false

theorem heap_set_same {w : World} {b i : Nat} {c : Array Value} {t : TypeId} {v : Value} (h : w.heap[b]? = some (.cells c t (0, 0))) : (w.setCell ⟨b, i, none⟩ v).heap[b]? = some (.cells (c.setIfInBounds i v) t (0, 0)) := heap_setCell_same _ _ _ _ _ _ h
/-- five cells are written -/
theorem five_end {W : World} {b : Nat} {x0 x1 x2 x3 x4 : Value} {t : TypeId} (v0 v1 v2 v3 v4 : Value) (h : W.heap[b]? = some (.cells #[x0, x1, x2, x3, x4] t (0, 0))) (W' : World)
    (hW : W' = ((((W.setCell ⟨b, 0, none⟩ v0).setCell ⟨b, 1, none⟩ v1).setCell ⟨b, 2, none⟩ v2).setCell ⟨b, 3, none⟩ v3).setCell ⟨b, 4, none⟩ v4) :
    (W'.cell? ⟨b, 0, none⟩ = some v0 ∧ W'.cell? ⟨b, 1, none⟩ = some v1 ∧ W'.cell? ⟨b, 2, none⟩ = some v2 ∧ W'.cell? ⟨b, 3, none⟩ = some v3 ∧ W'.cell? ⟨b, 4, none⟩ = some v4) ∧ Below b W W' := by
  subst hW
  have hk := heap_set_same (i := 4) (v := v4) (heap_set_same (i := 3) (v := v3) (heap_set_same (i := 2) (v := v2) (heap_set_same (i := 1) (v := v1) (heap_set_same (i := 0) (v := v0) h))))
  have hk2 : (((((W.setCell ⟨b, 0, none⟩ v0).setCell ⟨b, 1, none⟩ v1).setCell ⟨b, 2, none⟩ v2).setCell ⟨b, 3, none⟩ v3).setCell ⟨b, 4, none⟩ v4).heap[b]? = some (.cells #[v0, v1, v2, v3, v4] t (0, 0)) := hk
  exact ⟨⟨cell_of_row _ _ 0 _ _ _ hk2, cell_of_row _ _ 1 _ _ _ hk2, cell_of_row _ _ 2 _ _ _ hk2, cell_of_row _ _ 3 _ _ _ hk2, cell_of_row _ _ 4 _ _ _ hk2⟩,
    (((((Below.refl b W).setCell (p := ⟨b, 0, none⟩) (Nat.le_refl _) _).setCell (p := ⟨b, 1, none⟩) (Nat.le_refl _) _).setCell (p := ⟨b, 2, none⟩) (Nat.le_refl _) _).setCell (p := ⟨b, 3, none⟩) (Nat.le_refl _) _).setCell (p := ⟨b, 4, none⟩) (Nat.le_refl _) _⟩
abbrev lz0 : Value := .agg #[.int .i64 0, .int .i64 0, .slice none 0 0, .slice none 0 0, .int .i64 0]
/-- what stands between a call and its answer: refused, with which error; or it is one of them -/
theorem look_cases {ps : List Pn} {m : Nat} (hm : m = ps.length) (q : Int) : (∃ E : Int, ((chkP ps = false ∧ E = 2) ∨ (chkP ps = true ∧ one m q = false ∧ E = 9)) ∧ (E != 0) = true) ∨ ∃ k : Nat, q = k ∧ k < m ∧ chkP ps = true := by
  cases h : chkP ps with
  | false => exact Or.inl ⟨2, Or.inl ⟨rfl, rfl⟩, by decide⟩
  | true =>
    cases h2 : one m q with
    | false => exact Or.inl ⟨9, Or.inr ⟨rfl, rfl, rfl⟩, by decide⟩
    | true =>
      have := one_iff.1 h2
      exact Or.inr ⟨q.toNat, by omega, by omega, rfl⟩
theorem waR_no {ps : List Pn} {m : Nat} (hm : m = ps.length) {q E : Int} (k : Int) (h : (chkP ps = false ∧ E = 2) ∨ (chkP ps = true ∧ one m q = false ∧ E = 9)) : waR ps q k = (0, E) := by
  unfold waR
  rcases h with ⟨h, rfl⟩ | ⟨h, h2, rfl⟩
  · rw [h]; rfl
  · rw [h, if_pos rfl, if_neg (fun hc => by rw [one_iff.2 ⟨hc.1, by omega⟩] at h2; cases h2)]
theorem moR_no {ps : List Pn} {m : Nat} (hm : m = ps.length) {q E : Int} (h : (chkP ps = false ∧ E = 2) ∨ (chkP ps = true ∧ one m q = false ∧ E = 9)) : moR ps q = ([], E) := by
  unfold moR
  rcases h with ⟨h, rfl⟩ | ⟨h, h2, rfl⟩
  · rw [h]; rfl
  · rw [h, if_pos rfl, if_neg (fun hc => by rw [one_iff.2 ⟨hc.1, by omega⟩] at h2; cases h2)]
theorem deR_no {ps : List Pn} {m : Nat} (hm : m = ps.length) {q E : Int} (T : Int) (h : (chkP ps = false ∧ E = 2) ∨ (chkP ps = true ∧ one m q = false ∧ E = 9)) : deR ps q T = (0, E) := by
  unfold deR
  rcases h with ⟨h, rfl⟩ | ⟨h, h2, rfl⟩
  · rw [h]; rfl
  · rw [h, if_pos rfl, if_neg (fun hc => by rw [one_iff.2 ⟨hc.1, by omega⟩] at h2; cases h2)]
end Go.Proofs.Ytlifkclgflfnlaa
