/- The chapter's examples: works. -/
import Derived.Test.YtlifkclgflfnlaaDelL
namespace Go.Proofs.Ytlifkclgflfnlaa
open Go.RowKit Tk De Dl
set_option linter.unusedVariables false

/-- a literal's rows -/
def lz (l : List (List Int)) : Nat → Nat → Int := fun i j => (l.getD i []).getD j 0
/-- tasks, one behind the other, in a block -/
def tcells (l : List (List Int)) : List Value := l.flatten.map (Value.int .i64)
theorem tcells_at : ∀ {l : List (List Int)}, (∀ x ∈ l, x.length = 8) → ∀ i, i < l.length → ∀ j, j < 8 → (tcells l)[i * 8 + j]? = some (.int .i64 (lz l i j)) := by
  have key : ∀ (l : List (List Int)), (∀ x ∈ l, x.length = 8) → ∀ i, i < l.length → ∀ j, j < 8 → l.flatten[i * 8 + j]? = some (lz l i j) := by
    intro l
    induction l with
    | nil => intro _ i hi; cases hi
    | cons x r ih =>
      intro hx i hi j hj
      have h8 := hx x (by simp)
      cases i with
      | zero =>
        simp only [List.flatten_cons, Nat.zero_mul, Nat.zero_add]
        rw [List.getElem?_append_left (by omega)]
        simp [lz, List.getElem?_eq_getElem (show j < x.length by omega)]
      | succ i =>
        simp only [List.flatten_cons]
        rw [List.getElem?_append_right (by omega)]
        have := ih (fun y hy => hx y (by simp [hy])) i (by simpa using hi) j hj
        rw [show (i + 1) * 8 + j - x.length = i * 8 + j by omega, this]
        simp [lz]
  intro l hl i hi j hj
  rw [tcells, List.getElem?_map, key l hl i hi j hj]
  rfl
theorem tk_of {W : World} {g cap : Nat} {l : List (List Int)} (hl : ∀ x ∈ l, x.length = 8) (h : ∀ (j : Nat) u, (tcells l)[j]? = some u → W.cell? ⟨g, j, none⟩ = some u) (hc : l.length ≤ cap) (hm : cap ≤ maxLen) :
    TK W (.slice (some ⟨g, 0, none⟩) l.length cap) l.length (lz l) :=
  ⟨_, _, rfl, hc, hm, (fun h => by cases h), fun _ => ⟨_, 0, rfl, fun i hi j hj => by rw [Nat.zero_add]; exact h _ _ (tcells_at hl i hi j hj)⟩⟩
/-- partitions, one behind the other, in a block -/
def pcells : List (Pn × Value) → List Value
  | [] => []
  | (p, v) :: r => .int .i64 p.per :: .int .i64 p.bud :: v :: pcells r
theorem pcells_len : ∀ l : List (Pn × Value), (pcells l).length = l.length * 3
  | [] => rfl
  | (p, v) :: r => by simp only [pcells, List.length_cons, pcells_len r]; omega
theorem pcells_app : ∀ l m : List (Pn × Value), pcells (l ++ m) = pcells l ++ pcells m
  | [], _ => rfl
  | (p, v) :: r, m => by simp only [List.cons_append, pcells, pcells_app r m]
def pr0 : Pn × Value := (p0, .bool false)
theorem pcells_at : ∀ {l : List (Pn × Value)} {i : Nat}, i < l.length → (pcells l)[i * 3]? = some (.int .i64 (l.getD i pr0).1.per) ∧ (pcells l)[i * 3 + 1]? = some (.int .i64 (l.getD i pr0).1.bud) ∧ (pcells l)[i * 3 + 2]? = some (l.getD i pr0).2
  | [], _, h => by cases h
  | (p, v) :: r, 0, _ => ⟨rfl, rfl, rfl⟩
  | (p, v) :: r, i + 1, h => by
    have := pcells_at (l := r) (i := i) (by simpa using h)
    have e : (i + 1) * 3 = i * 3 + 1 + 1 + 1 := by omega
    have e1 : (i + 1) * 3 + 1 = (i * 3 + 1) + 1 + 1 + 1 := by omega
    have e2 : (i + 1) * 3 + 2 = (i * 3 + 2) + 1 + 1 + 1 := by omega
    rw [e1, e2, e]
    simp only [pcells, List.getElem?_cons_succ, List.getD_cons_succ]
    exact this
theorem getD_map1 (l : List (Pn × Value)) (i : Nat) : (l.map (·.1)).getD i p0 = (l.getD i pr0).1 := by
  simp only [List.getD, List.getElem?_map]
  cases l[i]? <;> rfl
theorem ps_of {W : World} {g cap : Nat} {l : List (Pn × Value)} (h : ∀ (j : Nat) u, (pcells l)[j]? = some u → W.cell? ⟨g, j, none⟩ = some u) (hT : ∀ i, i < l.length → TK W (l.getD i pr0).2 (l.getD i pr0).1.n (l.getD i pr0).1.z ∧ (l.getD i pr0).1.n ≤ 2199023255552)
    (hc : l.length ≤ cap) (hm : cap ≤ maxLen) : PS W (.slice (some ⟨g, 0, none⟩) l.length cap) (l.map (·.1)) := by
  have hl : (l.map (·.1)).length = l.length := by simp
  refine ⟨_, _, by rw [hl], by rw [hl]; exact hc, hm, (fun h => by cases h), fun _ => ⟨g, 0, rfl, fun i hi => ?_⟩⟩
  rw [hl] at hi
  obtain ⟨a0, a1, a2⟩ := pcells_at hi
  rw [getD_map1, Nat.zero_add]
  exact ⟨h _ _ a0, h _ _ a1, _, h _ _ a2, (hT i hi).1, (hT i hi).2⟩
/-- the chapter's partitions -/
def exl1 : List (List Int) := [[10, 10, 4, 0, 0, 1, 2, 1]]
def exl2 : List (List Int) := [[20, 12, 3, 0, 2, 1, 1, 2]]
def exP : Pn := ⟨5, 2, 1, lz exl1⟩
def exQ : Pn := ⟨7, 3, 1, lz exl2⟩
def exR : Pn := ⟨4, 1, 0, lz []⟩
def ex3 : List Pn := [exP, exQ, exR]
def ex2 : List Pn := [exP, exR]
theorem three_facts (w W : World) (hW : W = ((w.alloc (.cells (tcells exl1).toArray 65)).alloc (.cells (tcells exl2).toArray 65)).alloc
      (.cells (pcells [(exP, .slice (some ⟨w.heap.size, 0, none⟩) 1 1), (exQ, .slice (some ⟨w.heap.size + 1, 0, none⟩) 1 1), (exR, .slice none 0 0)]).toArray 36)) :
    PS W (.slice (some ⟨w.heap.size + 1 + 1, 0, none⟩) 3 3) ex3 ∧ Below w.heap.size w W := by
  subst hW
  have h1 := heap_alloc_new w (.cells (tcells exl1).toArray 65)
  have h2 := heap_alloc_new (w.alloc (.cells (tcells exl1).toArray 65)) (.cells (tcells exl2).toArray 65)
  have h1' := (Below.heap_alloc _ (.cells (tcells exl2).toArray 65) _ (lt_of_block h1)).trans h1
  obtain ⟨o, ho⟩ : ∃ o : Obj, o = .cells (pcells [(exP, .slice (some ⟨w.heap.size, 0, none⟩) 1 1), (exQ, .slice (some ⟨w.heap.size + 1, 0, none⟩) 1 1), (exR, .slice none 0 0)]).toArray 36 := ⟨_, rfl⟩
  have h3 := heap_alloc_new ((w.alloc (.cells (tcells exl1).toArray 65)).alloc (.cells (tcells exl2).toArray 65)) o
  have h1'' := (Below.heap_alloc _ o _ (lt_of_block h1')).trans h1'
  have h2'' := (Below.heap_alloc _ o _ (lt_of_block h2)).trans h2
  rw [ho] at h3
  rw [← ho]
  simp only [World.size_alloc] at h2'' h3
  refine ⟨ps_of (l := [(exP, .slice (some ⟨w.heap.size, 0, none⟩) 1 1), (exQ, .slice (some ⟨w.heap.size + 1, 0, none⟩) 1 1), (exR, .slice none 0 0)]) (fun j u hj => ?_) (fun i hi => ?_) (Nat.le_refl 3) (by decide), (((Below.refl _ w).alloc (Nat.le_refl _) _).alloc (by simp) _).alloc (by simp; omega) _⟩
  · rw [ho]
    rw [cell_of_row _ _ j _ _ _ h3, List.getElem?_toArray]; exact hj
  · match i, hi with
    | 0, _ => exact ⟨tk_of (l := exl1) (by decide) (fun j u hj => by rw [cell_of_row _ _ j _ _ _ h1'', List.getElem?_toArray]; exact hj) (by decide) (by decide), by show 1 ≤ 2199023255552; decide⟩
    | 1, _ => exact ⟨tk_of (l := exl2) (by decide) (fun j u hj => by rw [cell_of_row _ _ j _ _ _ h2'', List.getElem?_toArray]; exact hj) (by decide) (by decide), by show 1 ≤ 2199023255552; decide⟩
    | 2, _ => exact ⟨TK.nil _ _, by show 0 ≤ 2199023255552; decide⟩
theorem k1 : waR ex3 0 0 = (14, 0) := by decide +kernel
theorem k2 : waR ex3 1 0 = (10, 0) := by decide +kernel
theorem k3 : waR ex2 0 0 = (0, 0) := by decide +kernel
theorem k4 : deR ex3 1 11 = (11, 0) := by decide +kernel
theorem k5 : deR ex3 1 12 = (0, 0) := by decide +kernel
theorem k6 : deR ex2 0 3 = (3, 0) := by decide +kernel
theorem k7 : moR ex3 0 = ([15], 0) := by decide +kernel
theorem k8 : moR ex3 1 = ([20], 0) := by decide +kernel
theorem k9 : moR ex3 2 = ([], 0) := by decide +kernel
end Go.Proofs.Ytlifkclgflfnlaa
